/- Scene: what the statements ask first. -/
import Derived.Test.YthifemkbemhmnaaDa
namespace Go.Proofs.Ythifemkbemhmnaa
open Go.ChangeShapes Go.WideShapes Go.ChangeAt Go.RowKit Go.Fl Ieee
attribute [local go_sem] run_store_float run_store_c isSome_set call69 call32 run_neg fold_eq fold_ne fold_lt fold_gt abs_eq

/-- Rows, refused. -/
theorem row_err {w : World} {cc vv rr n pc tm wd T cp R : Nat} {E seed : Int} {q0 p : Option Addr} {z z0 : Int} {b3 b4 b5 : Bool} (h0 : checkF (ab cc) (ab vv) (ab rr) E R = z0) (hn : n ≤ 1000000) (hT : T ≤ 1000000) (h3 : (fin (ab tm) && fin (ab wd)) = b3) (h4 : ltF (ab wd) (ab 0) = b4)
    (h5 : muchF T R n = false → ∀ w', Up w w' → Calls Try.prog 58 #[.slice p T cp] w' (BU b5 w')) (hz : refF z0 (decide (n = 0)) (muchF T R n) b3 b4 b5 = z) (hne : z ≠ 0) :
    Calls Try.prog 16 #[.agg #[.float .f64 cc, .float .f64 vv, .float .f64 rr, .int .i64 E, .int .i64 R], .slice q0 n pc, .slice p T cp, .float .f64 tm, .float .f64 wd, .int .u64 seed] w (ER z w) := by
  refine t16e hne fun W hW => ?_
  rw [← hz]
  exact t35 h0 (by omega) (by omega) h3 h4 fun hm w' hu' => h5 hm w' (hW.trans hu')
/-- Rows, answered. -/
theorem row_ok {w : World} {cc vv rr n pc tm wd T cp E R N pg po tg : Nat} {seed : Int} {p : Option Addr} {fp : Nat → Nat × Nat} {f : Nat → Tg} (h0 : checkF (ab cc) (ab vv) (ab rr) (E : Int) (R : Int) = 0) (hN : R * E = N) (hn1 : 1 ≤ n) (hm : muchF T R n = false) (h3 : (fin (ab tm) && fin (ab wd)) = true) (h4 : ltF (ab wd) (ab 0) = false) (hp : RD w pg po n fp)
    (ht : TL w tg T f) (htp : 0 < T → p = some ⟨tg, 0, none⟩) (hf : ∀ i, i < T → finT (f i) = true) :
    Calls Try.prog 16 #[.agg #[.float .f64 cc, .float .f64 vv, .float .f64 rr, .int .i64 E, .int .i64 R], .slice (some ⟨pg, po, none⟩) n pc, .slice p T cp, .float .f64 tm, .float .f64 wd, .int .u64 seed] w (OKT w R E (fun k g => finalS ⟨cc, vv, rr, E, R⟩ f tm n N (fun i => ab2 (fp i)) T wd seed (k * E + g))) := by
  have hm' := hm
  unfold muchF at hm'
  simp at hm'
  obtain ⟨⟨hT, hn2⟩, _⟩ := hm'
  have hck := h0
  unfold checkF at hck
  split at hck
  · rename_i hb
    obtain ⟨g1, g2, g3, e1, e2, r1, r2⟩ := hb
    have hN2 : N ≤ 262144 := by
      rw [← hN]
      have e : ((R * E : Nat) : Int) = (E : Int) * (R : Int) := by rw [Int.natCast_mul, Int.mul_comm]
      by_cases hgt : (E : Int) * (R : Int) > 262144
      · rw [if_pos hgt] at hck; cases hck
      · omega
    refine t16 (fun W hW => ?_) g1 g2 (by omega) (by omega) (by omega) hN hN2 hn1 hn2 hT hp ht htp (fun i hi => by
      have q := hf i hi
      simp only [finT, fin4F, Bool.and_eq_true] at q
      exact q.2.2.2)
    have e : refF 0 (decide (n = 0)) (muchF T R n) true false true = 0 := by
      rw [hm, decide_eq_false (by omega)]; rfl
    rw [← e]
    refine t35 h0 (by omega) (by omega) h3 h4 fun _ w' hu' => ?_
    rcases Nat.eq_zero_or_pos T with rfl | hp0
    · exact t58z _ _ _
    · rw [htp hp0]
      exact all_fin ht (by omega) hf w' (hW.trans hu')
  · cases hck
def p2 : List (Nat × Nat) := [(4607182418800017408, 0), (4607182418800017408, 0)]
abbrev pulse2 (w : World) : World := w.alloc (.cells #[.complex .f64 4607182418800017408 0, .complex .f64 4607182418800017408 0] 28)
theorem rd_p2 (w : World) : RD (pulse2 w) w.heap.size 0 2 (fun i => p2[i]!) := rd_new w 28 p2 rfl rfl
def RP (w : World) (g : Nat) : Prop := RD w g 0 2 (fun i => p2[i]!)
theorem RP.up {w w' : World} {g : Nat} (h : RP w g) (hu : Up w w') : RP w' g := RD.up h hu
def k1 : List (Nat × Nat) := [(0, 0), (0, 0), (0, 0), (4607182418800017408, 0), (4607182418800017408, 0), (0, 0), (0, 0), (0, 0), (0, 0), (0, 0), (0, 0), (4607182418800017408, 0), (4607182418800017408, 0), (0, 0), (0, 0), (0, 0)]
def k2 : List (Nat × Nat) := [(0, 0), (0, 0), (0, 0), (4611686018427387904, 0), (4611686018427387904, 0), (0, 0), (0, 0), (0, 0), (0, 0), (0, 0), (0, 0), (4611686018427387904, 0), (4611686018427387904, 0), (0, 0), (0, 0), (0, 0)]
def k3 : List (Nat × Nat) := [(13830558752551049776, 4608684551068439744), (4602848713819600392, 13829467918653838968), (13823248695234237888, 4604715686661395728), (4601722161429101120, 13816669062821602752), (4608962639542601248, 4610445780615190228), (4607781139877813552, 13828392264417234552), (4607266093971153024, 13831293102400434700), (13832564226928140736, 4611537902845789580), (13828623622671413008, 13827284867873513800), (13827843526635211696, 13810950849017655040), (13829960480008595576, 13833010185991751984), (13822068835359376912, 13822262199738139184), (4608813006974432080, 4598192854152445584), (4594767440219657536, 13826569700653569440), (4603288333978638816, 4603484288820972616), (13835247248069406440, 13835350638895646107)]
def bS : Bt := ⟨4621819117588971520, 4602678819172646912, 4652007308841189376, 8, 2⟩
theorem chk : checkF (ab 4621819117588971520) (ab 4602678819172646912) (ab 4652007308841189376) ((8 : Nat) : Int) ((2 : Nat) : Int) = 0 := by decide +kernel
/-- An echo of the chapter's beat. -/
theorem ke {w : World} {g : Nat} (r s a t q : Nat) (K : List (Nat × Nat)) (hp : RP w g) (h5 : finT ⟨r, s, a, t, q⟩ = true) (hK : ∀ k, k < 2 → ∀ j, j < 8 → sceneS bS (fun _ => ⟨r, s, a, t, q⟩) 0 2 16 (fun i => ab2 p2[i]!) 1 (k * 8 + j) = so K[k * 8 + j]!) :
    Calls Try.prog 7 #[.agg #[.float .f64 4621819117588971520, .float .f64 4602678819172646912, .float .f64 4652007308841189376, .int .i64 8, .int .i64 2], .slice (some ⟨g, 0, none⟩) 2 2, .agg #[.float .f64 r, .float .f64 s, .float .f64 a, .float .f64 t, .float .f64 q], .float .f64 0] w (KT w 2 8 K) :=
  (ech_ok (E := 8) (R := 2) (N := 16) (fp := fun i => p2[i]!) chk rfl (by omega) (by decide +kernel) (by decide +kernel) h5 hp).mono fun _ _ h => h.known (Up.refl _) K (by decide) hK
theorem tl_two (w : World) (r s a t q r' s' a' t' q' : Nat) : TL (w.alloc (.cells #[.float .f64 r, .float .f64 s, .float .f64 a, .float .f64 t, .float .f64 q, .float .f64 r', .float .f64 s', .float .f64 a', .float .f64 t', .float .f64 q'] 34)) w.heap.size 2 (fun i => if i = 0 then ⟨r, s, a, t, q⟩ else ⟨r', s', a', t', q'⟩) := fun i hi => by
  obtain rfl | rfl : i = 0 ∨ i = 1 := by omega
  · exact ⟨new_cell _ _ _ _ _ rfl, new_cell _ _ _ _ _ rfl, new_cell _ _ _ _ _ rfl, new_cell _ _ _ _ _ rfl, new_cell _ _ _ _ _ rfl⟩
  · exact ⟨new_cell _ _ _ _ _ rfl, new_cell _ _ _ _ _ rfl, new_cell _ _ _ _ _ rfl, new_cell _ _ _ _ _ rfl, new_cell _ _ _ _ _ rfl⟩
theorem w1a {w : World} {g : Nat} (hp : RP w g) : Calls Try.prog 7 #[.agg #[.float .f64 4621819117588971520, .float .f64 4602678819172646912, .float .f64 4652007308841189376, .int .i64 8, .int .i64 2], .slice (some ⟨g, 0, none⟩) 2 2, .agg #[.float .f64 4629137466983448576, .float .f64 0, .float .f64 4607182418800017408, .float .f64 0, .float .f64 0], .float .f64 0] w (KT w 2 8 k1) :=
  ke _ _ _ _ _ k1 hp (by decide +kernel) (by decide +kernel)
theorem w2a {w w2 : World} {g g2 : Nat} (hp : RP w g) (hg : g2 = w.heap.size) (hw : w2 = w.alloc (.cells #[.float .f64 4629137466983448576, .float .f64 0, .float .f64 4607182418800017408, .float .f64 0, .float .f64 0, .float .f64 4629137466983448576, .float .f64 0, .float .f64 4607182418800017408, .float .f64 0, .float .f64 0] 34)) :
    Calls Try.prog 16 #[.agg #[.float .f64 4621819117588971520, .float .f64 4602678819172646912, .float .f64 4652007308841189376, .int .i64 8, .int .i64 2], .slice (some ⟨g, 0, none⟩) 2 2, .slice (some ⟨g2, 0, none⟩) 2 2, .float .f64 0, .float .f64 0, .int .u64 7] w2 (KT w 2 8 k2) := by
  subst hg hw
  exact (row_ok (E := 8) (R := 2) (N := 16) (T := 2) (n := 2) (fp := fun i => p2[i]!) chk rfl (by omega) (by decide +kernel) (by decide +kernel) (by decide +kernel) (RP.up hp (Up.alloc _ _)) (tl_two w _ _ _ _ _ _ _ _ _ _) (fun _ => rfl) (fun i hi => by
    obtain rfl | rfl : i = 0 ∨ i = 1 := by omega
    · decide +kernel
    · decide +kernel)).mono fun _ _ h => h.known (Up.alloc _ _) k2 (by decide) (by decide +kernel)
theorem w3a {w : World} {g : Nat} (hp : RP w g) : Calls Try.prog 16 #[.agg #[.float .f64 4621819117588971520, .float .f64 4602678819172646912, .float .f64 4652007308841189376, .int .i64 8, .int .i64 2], .slice (some ⟨g, 0, none⟩) 2 2, .slice none 0 0, .float .f64 0, .float .f64 4607182418800017408, .int .u64 7] w (KT w 2 8 k3) :=
  (row_ok (E := 8) (R := 2) (N := 16) (T := 0) (n := 2) (tg := 0) (f := fun _ => ⟨0, 0, 0, 0, 0⟩) (fp := fun i => p2[i]!) chk rfl (by omega) (by decide +kernel) (by decide +kernel) (by decide +kernel) hp (fun i hi => by omega) (fun h => by omega) (fun i hi => by omega)).mono fun _ _ h => h.known (Up.refl _) k3 (by decide) (by decide +kernel)
set_option maxRecDepth 20000 in
theorem t13 (w : World) : Calls Try.prog 13 #[] w fun e w' => e = .returned (.agg #[.float .f64 4621819117588971520, .float .f64 4602678819172646912, .float .f64 4652007308841189376, .int .i64 8, .int .i64 2]) ∧ Hid (Up w w') := by
  go_enter Try.func13, Try.ntmps13
  go_wp2
  exact bodyPost_ret (results_cell_row Try.results13 _ _ _ 31 #[.float .f64 4621819117588971520, .float .f64 4602678819172646912, .float .f64 4652007308841189376, .int .i64 8, .int .i64 2] (0, 0) _ rfl (heap_alloc_last _ _) Try.underlying31 rfl (by kernel_rfl)) rfl ⟨rfl, Up.alloc _ _⟩
/-- 100 metres, 2 a second nearer, 3 seconds on. -/
theorem t22k (w : World) : Calls Try.prog 22 #[.agg #[.float .f64 4636737291354636288, .float .f64 13835058055282163712, .float .f64 0, .float .f64 0, .float .f64 0], .float .f64 4613937818241073152] w fun e w' => e = .returned (.float .f64 4636315078889570304) ∧ Hid (Up w w') :=
  (t22 _ _ _ _ _ _ w).mono fun e w' ⟨r, he, hr, hu⟩ => by
    have e1 : atF (ab 4636737291354636288) (ab 13835058055282163712) (ab 4613937818241073152) = some 4636315078889570304 := by decide +kernel
    exact ⟨by rw [he, of_ab (hr.out.trans e1)], hu⟩
set_option maxRecDepth 100000 in
set_option maxHeartbeats 8000000 in
theorem t6 (w : World) : Calls Try.prog 6 #[] w (TU w) := by
  have q1 : eqF (ab 4607182418800017408) (ab 4607182418800017408) = true := by decide +kernel
  have q2 : eqF (ab 0) (ab 0) = true := by decide +kernel
  have q3 : eqF (ab 4611686018427387904) (ab 4611686018427387904) = true := by decide +kernel
  have q4 : eqF (ab 13830558752551049776) (ab 4602848713819600392) = false := by decide +kernel
  have q5 : eqF (ab 4636315078889570304) (ab 4636315078889570304) = true := by decide +kernel
  have R0 : Hid (RP (pulse2 w) w.heap.size) := rd_p2 w
  have U0 : Hid (Up w (pulse2 w)) := Up.alloc _ _
  go_enter Try.func6, Try.ntmps6
  go_wp2_with (first
    | ((fail_if_success have := u1); go_at_call 13; (with_reducible refine (t13 _).mono ?_); rintro e wa ⟨rfl, u1⟩; have R1 : Hid (RP wa w.heap.size) := R0.out.up u1.out; have U1 : Hid (Up w wa) := U0.out.trans u1.out)
    | (go_at_call 7; (with_reducible refine (w1a R1.out).mono ?_); rintro e wb ⟨A1, B1, rfl, ta, ra, u2⟩; have R2 : Hid (RP wb w.heap.size) := R1.out.up u2.out; have U2 : Hid (Up w wb) := U1.out.trans u2.out)
    | ((fail_if_success have := u3); go_at_call 13; (with_reducible refine (t13 _).mono ?_); rintro e wc ⟨rfl, u3⟩; have R3 : Hid (RP wc w.heap.size) := R2.out.up u3.out; have U3 : Hid (Up w wc) := U2.out.trans u3.out)
    | (go_at_call 16; (with_reducible refine (w2a R3.out (by simp) rfl).mono ?_); rintro e wd ⟨A2, B2, rfl, tb, rb, u4⟩; have R4 : Hid (RP wd w.heap.size) := R3.out.up u4.out; have U4 : Hid (Up w wd) := U3.out.trans u4.out)
    | (go_at_call 13; (with_reducible refine (t13 _).mono ?_); rintro e we ⟨rfl, u5⟩; have R5 : Hid (RP we w.heap.size) := R4.out.up u5.out; have U5 : Hid (Up w we) := U4.out.trans u5.out)
    | (go_at_call 16; (with_reducible refine (w3a R5.out).mono ?_); rintro e wf ⟨A3, B3, rfl, tc, rc, u6⟩
       have V46 := u5.out.trans u6.out
       have V26 := (u3.out.trans u4.out).trans V46
       have U : Hid (Up w wf) := U5.out.trans u6.out
       have a10 : wf.cell? ⟨A1, 0, none⟩ = some (.slice (some ⟨B1, 0, none⟩) 8 8) := (ta.out.up V26) 0 (by omega)
       have a11 : wf.cell? ⟨A1, 1, none⟩ = some (.slice (some ⟨B1, 8, none⟩) 8 8) := (ta.out.up V26) 1 (by omega)
       have b13 : wf.cell? ⟨B1, 3, none⟩ = some (.complex .f64 4607182418800017408 0) := (ra.out.up V26) 3 (by omega)
       have b1c : wf.cell? ⟨B1, 12, none⟩ = some (.complex .f64 4607182418800017408 0) := (ra.out.up V26) 12 (by omega)
       have b15 : wf.cell? ⟨B1, 5, none⟩ = some (.complex .f64 0 0) := (ra.out.up V26) 5 (by omega)
       have a20 : wf.cell? ⟨A2, 0, none⟩ = some (.slice (some ⟨B2, 0, none⟩) 8 8) := (tb.out.up V46) 0 (by omega)
       have a21 : wf.cell? ⟨A2, 1, none⟩ = some (.slice (some ⟨B2, 8, none⟩) 8 8) := (tb.out.up V46) 1 (by omega)
       have b2b : wf.cell? ⟨B2, 11, none⟩ = some (.complex .f64 4611686018427387904 0) := (rb.out.up V46) 11 (by omega)
       have a30 : wf.cell? ⟨A3, 0, none⟩ = some (.slice (some ⟨B3, 0, none⟩) 8 8) := tc.out 0 (by omega)
       have b30 : wf.cell? ⟨B3, 0, none⟩ = some (.complex .f64 13830558752551049776 4608684551068439744) := rc.out 0 (by omega)
       have b31 : wf.cell? ⟨B3, 1, none⟩ = some (.complex .f64 4602848713819600392 13829467918653838968) := rc.out 1 (by omega)
       clear R0 R1 R2 R3 R4 R5 U0 U1 U2 U3 U4 U5 u1 u2 u3 u4 u5 u6 ta tb tc ra rb rc V46 V26))
  go_region_held3 (fun w' => w'.cell? ⟨A1, 0, none⟩ = some (.slice (some ⟨B1, 0, none⟩) 8 8) ∧ w'.cell? ⟨A1, 1, none⟩ = some (.slice (some ⟨B1, 8, none⟩) 8 8) ∧ w'.cell? ⟨B1, 3, none⟩ = some (.complex .f64 4607182418800017408 0) ∧ w'.cell? ⟨B1, 12, none⟩ = some (.complex .f64 4607182418800017408 0) ∧ w'.cell? ⟨B1, 5, none⟩ = some (.complex .f64 0 0) ∧ w'.cell? ⟨A2, 1, none⟩ = some (.slice (some ⟨B2, 8, none⟩) 8 8) ∧ w'.cell? ⟨B2, 11, none⟩ = some (.complex .f64 4611686018427387904 0) ∧ w'.cell? ⟨A3, 0, none⟩ = some (.slice (some ⟨B3, 0, none⟩) 8 8) ∧ w'.cell? ⟨B3, 0, none⟩ = some (.complex .f64 13830558752551049776 4608684551068439744) ∧ w'.cell? ⟨B3, 1, none⟩ = some (.complex .f64 4602848713819600392 13829467918653838968))
    (first
      | go_keep
      | (go_split_ands; refine ⟨cell_up ?_ u7.out, cell_up ?_ u7.out, cell_up ?_ u7.out, cell_up ?_ u7.out, cell_up ?_ u7.out, cell_up ?_ u7.out, cell_up ?_ u7.out, cell_up ?_ u7.out, cell_up ?_ u7.out, cell_up ?_ u7.out⟩ <;> assumption))
    ((go_at_call 22; (with_reducible refine (t22k _).mono ?_); rintro e wg ⟨rfl, u7⟩))
  all_goals (try go_wp2)
  all_goals (go_ret; exact ⟨rfl, (U.out.trans (Up.drew _)).trans u7.out⟩)
end Go.Proofs.Ythifemkbemhmnaa

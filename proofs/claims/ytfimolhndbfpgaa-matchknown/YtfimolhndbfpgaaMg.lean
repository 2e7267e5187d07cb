/- Two lists, by ==. -/
import Derived.Test.YtfimolhndbfpgaaMf
import Derived.ArgAppend
namespace Go.Proofs.Ytfimolhndbfpgaa
open Go.ChangeShapes Go.WideShapes Go.ChangeAt Go.RowKit Go.Fl Ieee
attribute [local go_sem] run_store_float run_store_complex call29 call28 run_neg fold_eq fold_ne fold_lt fold_gt abs_eq

def eqC (p q : Nat × Nat) : Bool := eqF (ab p.1) (ab q.1) && eqF (ab p.2) (ab q.2)
set_option maxHeartbeats 1000000 in
theorem t12 (g1 o1 c1 g2 o2 c2 n : Nat) (f g : Nat → Nat × Nat) (w : World) (h1 : RD w g1 o1 n f) (h2 : RD w g2 o2 n g) (h : ∀ i, i < n → eqC (f i) (g i) = true) (hn : n ≤ 100000) :
    Calls Try.prog 12 #[.slice (some ⟨g1, o1, none⟩) n c1, .slice (some ⟨g2, o2, none⟩) n c2] w (TU w) := by
  have H1 : Hid (RD w g1 o1 n f) := h1
  have H2 : Hid (RD w g2 o2 n g) := h2
  have H : Hid (∀ i, i < n → eqC (f i) (g i) = true) := h
  clear h1 h2 h
  go_enter Try.func12, Try.ntmps12
  go_wp2
  go_loopw [5] (fun v wr => ∃ i : Nat, i ≤ n ∧ v = .int .i64 i ∧ Hid (Up w wr)) (fun v _ => n - (intOf v).toNat)
  case atStart => exact ⟨0, by omega, rfl, Up.refl _⟩
  case round =>
    obtain ⟨i, hi, rfl, HU⟩ := hrel
    by_cases hlt : i < n
    · obtain ⟨x, y, HX, hx⟩ : ∃ x y, Hid (f i = (x, y)) ∧ wr.cell? ⟨g1, o1 + i, none⟩ = some (.complex .f64 x y) := ⟨_, _, rfl, (H1.out.up HU.out) i hlt⟩
      obtain ⟨u, v, HV, hv⟩ : ∃ u v, Hid (g i = (u, v)) ∧ wr.cell? ⟨g2, o2 + i, none⟩ = some (.complex .f64 u v) := ⟨_, _, rfl, (H2.out.up HU.out) i hlt⟩
      have he := H.out i hlt
      rw [HX.out, HV.out] at he
      simp only [eqC, Bool.and_eq_true] at he
      obtain ⟨e1, e2⟩ := he
      have z1 : (i : Int) < (n : Int) := by omega
      have z0 : (0 : Int) ≤ (i : Int) := by omega
      go_wp2_with fail
      go_region_held3 (fun W => W.cell? ⟨g1, o1 + i, none⟩ = some (.complex .f64 x y) ∧ W.cell? ⟨g2, o2 + i, none⟩ = some (.complex .f64 u v)) (go_keep) (fail)
      all_goals (try go_wp2)
      exact ⟨⟨i + 1, by omega, by go_num, HU.out.trans (Up.drew _)⟩, by simp [intOf]; omega⟩
    · obtain rfl : i = n := by omega
      go_wp2
      go_ret
      exact ⟨rfl, HU⟩

def i1 : List (Nat × Nat) := [(0, 4607182418800017408)]
def o1 : List (Nat × Nat) := [(4607182418800017408, 0)]
def n1 : List (Nat × Nat) := [(0, 13830554455654793216)]
abbrev newo1 (w : World) : World := w.alloc (.cells #[.complex .f64 4607182418800017408 0] 28)
abbrev newi1 (w : World) : World := w.alloc (.cells #[.complex .f64 0 4607182418800017408] 28)
abbrev newn1 (w : World) : World := w.alloc (.cells #[.complex .f64 0 13830554455654793216] 28)
abbrev newz1 (w : World) : World := w.alloc (.cells #[.complex .f64 0 0] 28)
def s6 : List (Nat × Nat) := [(0, 0), (0, 0), (4607182418800017408, 0), (4607182418800017408, 0), (13830554455654793216, 0), (0, 0)]
def s3 : List (Nat × Nat) := [(4607182418800017408, 0), (4607182418800017408, 0), (13830554455654793216, 0)]
def r6 : List (Nat × Nat) := [(13830554455654793216, 0), (0, 0), (4613937818241073152, 0), (0, 0), (13830554455654793216, 0), (0, 0)]
def e6 : List (Nat × Nat) := [(13830554455654793216, 0), (0, 0), (4613937818241073152, 0), (0, 0), (13830554455654793216, 0), (0, 0)]
abbrev news6 (w : World) : World := w.alloc (.cells #[.complex .f64 0 0, .complex .f64 0 0, .complex .f64 4607182418800017408 0, .complex .f64 4607182418800017408 0, .complex .f64 13830554455654793216 0, .complex .f64 0 0] 28)
abbrev news3 (w : World) : World := w.alloc (.cells #[.complex .f64 4607182418800017408 0, .complex .f64 4607182418800017408 0, .complex .f64 13830554455654793216 0] 28)
abbrev newe6 (w : World) : World := w.alloc (.cells #[.complex .f64 13830554455654793216 0, .complex .f64 0 0, .complex .f64 4613937818241073152 0, .complex .f64 0 0, .complex .f64 13830554455654793216 0, .complex .f64 0 0] 28)
theorem match_i1 : (List.range 1).map (heldF (fun i => o1[i]!) 1 (fun i => i1[i]!) 1) = n1.map so := by decide +kernel
theorem match_s6 : (List.range 6).map (heldF (fun i => s6[i]!) 6 (fun i => s3[i]!) 3) = r6.map so := by decide +kernel
theorem w7b (w : World) : Calls Try.prog 7 #[.slice (some ⟨w.heap.size, 0, none⟩) 1 1, .slice none 0 0] (newo1 w) (E0 w 2) := (t7arg _ _ _ _ _ _).mono fun _ _ h => h.empty (Up.alloc _ _)
theorem w10b (w : World) : Calls Try.prog 10 #[.slice (some ⟨w.heap.size, 0, none⟩) 1 1, .slice none 0 0] (newo1 w) (E0 w 2) := (t10arg _ _ _ _ _ _).mono fun _ _ h => h.empty (Up.alloc _ _)
theorem w11b (w : World) : Calls Try.prog 11 #[.slice (some ⟨w.heap.size, 0, none⟩) 1 1, .slice none 0 0] (newo1 w) (E0 w 0) := (t11none _ _ _ _ _ _ (by omega)).mono fun _ _ h => h.empty (Up.alloc _ _)
theorem w7c (w : World) : Calls Try.prog 7 #[.slice none 0 0, .slice (some ⟨w.heap.size, 0, none⟩) 1 1] (newo1 w) (E0 w 0) := (t7none _ _ _ _ _ _ (by omega) (by omega)).mono fun _ _ h => h.empty (Up.alloc _ _)
theorem w10c (w : World) : Calls Try.prog 10 #[.slice none 0 0, .slice (some ⟨w.heap.size, 0, none⟩) 1 1] (newo1 w) (E0 w 0) := (t10none _ _ _ _ _).mono fun _ _ h => h.empty (Up.alloc _ _)
theorem w7d (w : World) : Calls Try.prog 7 #[.slice (some ⟨w.heap.size, 0, none⟩) 1 1, .slice (some ⟨w.heap.size + 1, 0, none⟩) 1 1] (newi1 (newo1 w)) (KL (newi1 (newo1 w)).heap.size w 1 n1 0) := by
  rw [size1 w (.cells #[.complex .f64 4607182418800017408 0] 28)]
  exact (t7 w.heap.size 0 1 1 (newo1 w).heap.size 0 1 1 (fun i => o1[i]!) (fun i => i1[i]!) _ ((rd_new w 28 o1 rfl rfl).up (Up.alloc _ _)) (rd_new (newo1 w) 28 i1 rfl rfl) (by omega) (by omega) (by omega) (by omega) (by omega)).mono fun _ _ h => h.known ((Up.alloc _ _).trans (Up.alloc _ _)) match_i1 rfl (by omega)
theorem w7e (w : World) : Calls Try.prog 7 #[.slice (some ⟨w.heap.size, 0, none⟩) 6 6, .slice (some ⟨w.heap.size + 1, 0, none⟩) 3 3] (news3 (news6 w)) (KL (news3 (news6 w)).heap.size w 6 r6 0) := by
  rw [size1 w (.cells #[.complex .f64 0 0, .complex .f64 0 0, .complex .f64 4607182418800017408 0, .complex .f64 4607182418800017408 0, .complex .f64 13830554455654793216 0, .complex .f64 0 0] 28)]
  exact (t7 w.heap.size 0 6 6 (news6 w).heap.size 0 3 3 (fun i => s6[i]!) (fun i => s3[i]!) _ ((rd_new w 28 s6 rfl rfl).up (Up.alloc _ _)) (rd_new (news6 w) 28 s3 rfl rfl) (by omega) (by omega) (by omega) (by omega) (by omega)).mono fun _ _ h => h.known ((Up.alloc _ _).trans (Up.alloc _ _)) match_s6 rfl (by omega)
theorem TU.of {w0 w w' : World} {e : Ending} (h : TU w e w') (hu : Up w0 w) : TU w0 e w' := ⟨h.1, hu.trans h.2.out⟩
theorem eq1 : ∀ i, i < 1 → eqC n1[i]! n1[i]! = true := by decide +kernel
theorem eq6 : ∀ i, i < 6 → eqC r6[i]! e6[i]! = true := by decide +kernel
theorem w12a {b g cap : Nat} {w : World} (h : Hid (KR b w g 1 cap n1)) : Calls Try.prog 12 #[.slice (some ⟨g, 0, none⟩) 1 cap, .slice (some ⟨w.heap.size, 0, none⟩) 1 1] (newn1 w) (TU w) :=
  (t12 g 0 cap w.heap.size 0 1 1 (fun i => n1[i]!) (fun i => n1[i]!) _ (h.out.up (Up.alloc _ _)).rd (rd_new w 28 n1 rfl rfl) eq1 (by omega)).mono fun _ _ h => h.of (Up.alloc _ _)
theorem w12b {b g cap : Nat} {w : World} (h : Hid (KR b w g 6 cap r6)) : Calls Try.prog 12 #[.slice (some ⟨g, 0, none⟩) 6 cap, .slice (some ⟨w.heap.size, 0, none⟩) 6 6] (newe6 w) (TU w) :=
  (t12 g 0 cap w.heap.size 0 6 6 (fun i => r6[i]!) (fun i => e6[i]!) _ (h.out.up (Up.alloc _ _)).rd (rd_new w 28 e6 rfl rfl) eq6 (by omega)).mono fun _ _ h => h.of (Up.alloc _ _)
/-- A row of n noughts. -/
def ZR (w : World) (g n : Nat) : Prop := CRow g w (.slice (some ⟨g, 0, none⟩) n n) (List.replicate n (0, 0))
theorem ZR.up {w w' : World} {g n : Nat} (h : ZR w g n) (hu : Up w w') : ZR w' g n := CRow.up h hu
theorem upon_long {o : Oper} {a : Act} {next : Act → World → Prop} {Q : Exit → Act → World → Prop} {w : World} {F : Value → World → Result Next} (hk : ∀ g w', Hid (ZR w' g 16384 ∧ Up w w') → o.upon Try.prog a next Q (F (.slice (some ⟨g, 0, none⟩) 16384 16384) w')) :
    o.upon Try.prog a next Q (((Instr.makeSlice 27 (.int .i64 16384) (.int .i64 16384)).run Try.prog w).andThen F) := upon_make (n := 16384) (by omega) fun g w' h => hk g w' h.out.2
theorem ZR.rd {w : World} {g n : Nat} (h : ZR w g n) : RD w g 0 n (fun i => (List.replicate n (0, 0))[i]!) := rd_take h (Nat.le_refl _)
theorem run_more {w : World} {g n lg lo : Nat} (t : TypeId) {f : Nat → Nat × Nat} (h : ZR w g n) (hR : RD w lg lo 1 f) (hn : n ≤ 100000) :
    ∃ p cap w', (Builtin.append_ #[27, 27] t #[.slice (some ⟨g, 0, none⟩) n n, .slice (some ⟨lg, lo, none⟩) 1 1]).run Try.prog w = .ok (.slice p (n + 1) cap) w' ∧ Up w w' := by
  obtain ⟨i0, hi, hz0, hz1, hz2⟩ := info_parts info26
  obtain ⟨v', w', hrun, r1, r2⟩ := run_append_arg_grows (P := Try.prog) w 27 t 28 i0 (.complex .f64 0 0) 1 16 Try.underlying27 hi hz0 hz1 hz2 rfl (by decide) ⟨g, 0, none⟩ n n ((cut (fun i => (List.replicate n (0, 0))[i]!) 0 n).map ce) (by simp [cut_len]) (src_ok (o := 0) h.rd (by omega)) ⟨lg, lo, none⟩ 1 1 ((cut f 0 1).map ce) (by simp [cut_len]) (src_ok (o := 0) hR (by omega)) (by omega) (by unfold maxLen; omega) (by omega)
  obtain ⟨p, cap, rfl, _⟩ := own_form r1
  exact ⟨p, cap, w', hrun, Below.grown (Below.refl _ _) r2 (Nat.le_refl _) (fun j hj => by cases hj)⟩
theorem wpList_more {ops : Array Oper} {rest : List Oper} {o : Oper} {a : Act} {Q : Exit → Act → World → Prop} {w : World} {g : Nat} (hgd : o.guard = none) (s x : Operand)
    (hop : o.op = Op.call { callee := Callee.builtin Builtin.append, args := #[s, x], argTypes := #[27, 27] }) (hs : a.eval s = .slice (some ⟨g, 0, none⟩) 16384 16384) (hx : a.eval x = .slice (some ⟨w.heap.size, 0, none⟩) 1 1) (h : Hid (ZR w g 16384))
    (hK : ∀ p cap w', Hid (Up w w') → wpList Try.prog ops Q rest (a.put o.dst (.slice p 16385 cap)) w') : wpList Try.prog ops Q (o :: rest) a (newz1 w) := by
  refine wpList_plain hgd fun K hK' => ?_
  obtain ⟨p, cap, w', e, hu⟩ := run_more (n := 16384) (lo := 0) o.type (h.out.up (Up.alloc _ _)) (rd_new w 28 [(0, 0)] (cs := #[.complex .f64 0 0]) rfl rfl) (by omega)
  unfold Oper.wp
  simp [execOp, hop, resolve, invoke, builtin, hs, hx, e, Result.andThen]
  exact hK' _ _ (hK p cap w' ((Up.alloc _ _).trans hu))
theorem w10d (g : Nat) (w : World) : Calls Try.prog 10 #[.slice (some ⟨g, 0, none⟩) 16384 16384, .slice (some ⟨w.heap.size, 0, none⟩) 2 2] (newp2 w) (E0 w 3) := (t10long _ _ _ _ _).mono fun _ _ h => h.empty (Up.alloc _ _)
theorem w7f (p : Option Addr) (c : Nat) (w : World) : Calls Try.prog 7 #[.slice p 16385 c, .slice (some ⟨w.heap.size, 0, none⟩) 1 1] (newo1 w) (E0 w 3) := (t7long _ _ _ _ _ _ _ (by omega) (by omega) (by omega) (by omega)).mono fun _ _ h => h.empty (Up.alloc _ _)
theorem w11c (p q : Option Addr) (c d : Nat) (w : World) : Calls Try.prog 11 #[.slice p 4097 c, .slice q 4096 d] w (E0 w 3) := (t11work _ _ _ _ _ _ _ (by omega) (by omega) (by omega)).mono fun _ _ h => h.empty (Up.refl _)
theorem w13b (p : Option Addr) (c : Nat) (w : World) : Calls Try.prog 13 #[.slice p 16385 c] w fun e w' => e = .returned (.tuple #[.pointer none, .int .i64 3]) ∧ w' = w := t13long _ _ _ _ (by omega) (by omega)
def NW (w : World) (e : Ending) (w' : World) : Prop := ∃ b, e = .returned (.tuple #[.pointer (some ⟨b, 0, none⟩), .int .i64 0]) ∧ Hid (Up w w')
theorem w13n {w : World} {g n : Nat} (h : ZR w g n) (h1 : 1 ≤ n) (hn : n ≤ 16384) : Calls Try.prog 13 #[.slice (some ⟨g, 0, none⟩) n n] w (NW w) := (t13 g 0 n n _ w h.rd h1 hn).mono fun _ _ ⟨b, _, _, _, he, _, h2⟩ => ⟨b, he, h2⟩
theorem w13c {w : World} {g : Nat} (h : Hid (ZR w g 16384)) : Calls Try.prog 13 #[.slice (some ⟨g, 0, none⟩) 16384 16384] w (NW w) := w13n h.out (by omega) (by omega)
set_option maxRecDepth 100000 in
set_option maxHeartbeats 8000000 in
theorem t4 (w : World) : Calls Try.prog 4 #[] w (TU w) := by
  go_enter Try.func4, Try.ntmps4
  go_wp2_with (first
    | (go_at_call 7; (with_reducible refine (w7b _).mono ?_); rintro e w1 ⟨p1, c1, rfl, u1⟩)
    | (go_at_call 10; (with_reducible refine (w10b _).mono ?_); rintro e w2 ⟨p2, c2, rfl, u2⟩)
    | (go_at_call 11; (with_reducible refine (w11b _).mono ?_); rintro e w3 ⟨p3, c3, rfl, u3⟩)
    | (go_at_call 7; (with_reducible refine (w7c _).mono ?_); rintro e w4 ⟨p4, c4, rfl, u4⟩)
    | (go_at_call 10; (with_reducible refine (w10c _).mono ?_); rintro e w5 ⟨p5, c5, rfl, u5⟩)
    | (go_at_call 7; (with_reducible refine (w7d _).mono ?_); rintro e w6 ⟨g6, c6, rfl, k6, u6⟩)
    | (go_at_call 7; (with_reducible refine (w7e _).mono ?_); rintro e w7 ⟨g7, c7, rfl, k7, u7⟩
       have K6 : Hid (KR _ w7 g6 1 c6 n1) := k6.out.up u7.out
       have U7 : Hid (Up w w7) := (((((u1.out.trans u2.out).trans u3.out).trans u4.out).trans u5.out).trans u6.out).trans u7.out
       clear k6 u1 u2 u3 u4 u5 u6 u7)
    | (go_at_call 12; (with_reducible refine (w12a K6).mono ?_); rintro e w8 ⟨rfl, u8⟩; have K7 : Hid (KR _ w8 g7 6 c7 r6) := k7.out.up u8.out)
    | (go_at_call 12; (with_reducible refine (w12b K7).mono ?_); rintro e w9 ⟨rfl, u9⟩; have U9 : Hid (Up w w9) := (U7.out.trans u8.out).trans u9.out; clear k7 K7 K6 U7 u8 u9)
    | ((with_reducible refine upon_long ?_); intro lg wl HZ; have Z0 : Hid (ZR wl lg 16384) := HZ.out.1; have Ul : Hid (Up w wl) := U9.out.trans HZ.out.2; clear HZ U9)
    | (go_at_call 10; (with_reducible refine (w10d _ _).mono ?_); rintro e w10 ⟨p10, c10, rfl, u10⟩; have Z1 : Hid (ZR w10 lg 16384) := Z0.out.up u10.out)
    | (at_builtin; refine wpList_more rfl _ _ rfl rfl rfl Z1 ?_; intro p11 c11 w11 u11)
    | (go_at_call 7; (with_reducible refine (w7f _ _ _).mono ?_); rintro e w12 ⟨p12, c12, rfl, u12⟩; have Z2 : Hid (ZR w12 lg 16384) := Z1.out.up (u11.out.trans u12.out); have U12 : Hid (Up w w12) := ((Ul.out.trans u10.out).trans u11.out).trans u12.out; clear Z1 Z0 Ul u10 u11 u12))
  go_region_held3 (fun _ => True) (exact True.intro) ((go_at_call 11; (with_reducible refine (w11c _ _ _ _ _).mono ?_); rintro e w13 ⟨p13, c13, rfl, u13⟩))
  have Z3 : Hid (ZR w13 lg 16384) := Z2.out.up ((Up.drew _).trans u13.out)
  have U13 : Hid (Up w w13) := (U12.out.trans (Up.drew _)).trans u13.out
  clear Z2 U12 u13
  go_wp2_with (first
    | (at_builtin; refine wpList_more rfl _ _ rfl rfl rfl Z3 ?_; intro p14 c14 w14 u14)
    | (go_at_call 13; (with_reducible refine (w13b _ _ _).mono ?_); rintro e w15 ⟨rfl, rfl⟩; have Z4 : Hid (ZR w15 lg 16384) := Z3.out.up u14.out)
    | (go_at_call 13; (with_reducible refine (w13c Z4).mono ?_); rintro e w16 ⟨b16, rfl, u16⟩; have U16 : Hid (Up w w16) := (U13.out.trans u14.out).trans u16.out; clear Z3 Z4 U13 u14 u16)
    | (go_at_call 14; (with_reducible refine (t14nil _ _ _ _).mono ?_); rintro e w17 ⟨rfl, rfl⟩)
    | (go_at_call 15; (with_reducible refine (t15nil _).mono ?_); rintro e w18 ⟨rfl, rfl⟩)
    | (go_at_call 6; (with_reducible refine (t6 _).mono ?_); rintro e w19 ⟨rfl, u19⟩))
  go_ret
  exact ⟨rfl, U16.out.trans u19.out⟩
end Go.Proofs.Ytfimolhndbfpgaa

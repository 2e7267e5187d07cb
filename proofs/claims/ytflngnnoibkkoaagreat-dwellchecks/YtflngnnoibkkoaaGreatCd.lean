/- Scene: the walk of what adds an echo. -/
import Derived.Test.YtflngnnoibkkoaaGreatCb
import Derived.Test.YtflngnnoibkkoaaGreatEd
import Derived.Test.YtflngnnoibkkoaaGreatBg
import Derived.BigQuiet
namespace Go.Proofs.YtflngnnoibkkoaaGreat
open Go.ChangeShapes Go.WideShapes Go.ChangeAt Go.RowKit Go.Fl Ieee
set_option maxRecDepth 200000
set_option maxHeartbeats 8000000
attribute [local go_sem] run_store_float run_store_c isSome_set call34 call33 run_neg fold_eq fold_ne fold_lt fold_gt abs_eq

/-- What the closure leaves. -/
def AL (w : World) (lo B N : Nat) (F : Nat → C2) (e : Ending) (w' : World) : Prop := ∃ d, e = .returned (.tuple #[]) ∧ Hid (CRow lo w' (.slice (some ⟨B, 0, none⟩) N N) d) ∧ Hid (But B w w') ∧ Hid (∀ i, i < N → ab2 d[i]! = F i)
/-- All that a round may lean on. -/
structure AA (w : World) (lo B b1 b2 b3 b4 : Nat) (b : Bt) (pg po n pc tm N : Nat) (fp : Nat → Nat × Nat) (g : Nat) (t : Tg) (d : List (Nat × Nat)) (F : Nat → C2) : Prop where
  ax : AX w B b1 b2 b3 b4 b pg po n pc tm N fp
  t5 : T5 w g t
  ng : g ≠ B
  row : CRow lo w (.slice (some ⟨B, 0, none⟩) N N) d
  at_ : ∀ i, i < N → ab2 d[i]! = F i
theorem AA.up {w w' : World} {lo B b1 b2 b3 b4 : Nat} {b : Bt} {pg po n pc tm N : Nat} {fp : Nat → Nat × Nat} {g : Nat} {t : Tg} {d : List (Nat × Nat)} {F : Nat → C2} (h : AA w lo B b1 b2 b3 b4 b pg po n pc tm N fp g t d F) (hu : Up w w') : AA w' lo B b1 b2 b3 b4 b pg po n pc tm N fp g t d F :=
  ⟨h.ax.but (But.of_up hu), h.t5.but (But.of_up (g := B) hu) h.ng, h.ng, h.row.up hu, h.at_⟩
theorem AA.put {w : World} {lo B b1 b2 b3 b4 : Nat} {b : Bt} {pg po n pc tm N : Nat} {fp : Nat → Nat × Nat} {g : Nat} {t : Tg} {d : List (Nat × Nat)} {F G : Nat → C2} {I x y : Nat} (h : AA w lo B b1 b2 b3 b4 b pg po n pc tm N fp g t d F) (hI : I < N) (hG : ∀ i, i < N → G i = if i = I then ab2 (x, y) else F i) : AA (w.setCell ⟨B, I, none⟩ (.complex .f64 x y)) lo B b1 b2 b3 b4 b pg po n pc tm N fp g t (d.set I (x, y)) G ∧ But B w (w.setCell ⟨B, I, none⟩ (.complex .f64 x y)) := by
  obtain ⟨h1, h2⟩ := h.row.put I x y
  refine ⟨⟨h.ax.but h2, h.t5.but h2 h.ng, h.ng, h1, fun i hi => ?_⟩, h2⟩
  rw [set_at _ _ _ _ (by rw [h.row.len]; exact hI), hG i hi]
  split
  · rfl
  · exact h.at_ i hi
theorem cell_of {w : World} {lo B b1 b2 b3 b4 : Nat} {b : Bt} {pg po n pc tm N : Nat} {fp : Nat → Nat × Nat} {g : Nat} {t : Tg} {d : List (Nat × Nat)} {F : Nat → C2} {I x y : Nat} (h : AA w lo B b1 b2 b3 b4 b pg po n pc tm N fp g t d F) (hx : Hid (d[I]! = (x, y))) (hI : Hid (I < N)) : w.cell? ⟨B, I, none⟩ = some (.complex .f64 x y) := by
  have := h.row.cell (i := I) (by rw [h.row.len]; exact hI.out)
  rw [hx.out] at this; exact this
theorem pulse_of {w : World} {lo B b1 b2 b3 b4 : Nat} {b : Bt} {pg po n pc tm N : Nat} {fp : Nat → Nat × Nat} {g : Nat} {t : Tg} {d : List (Nat × Nat)} {F : Nat → C2} {k u v : Nat} (h : AA w lo B b1 b2 b3 b4 b pg po n pc tm N fp g t d F) (hx : Hid (fp k = (u, v))) (hk : Hid (k < n)) : w.cell? ⟨pg, po + k, none⟩ = some (.complex .f64 u v) := by
  have := h.ax.rd k hk.out
  rw [hx.out] at this; exact this
theorem eg93 (args : Array Value) (w : World) : (callFunc 93 args).run Tryz.prog w = .ok (.enter 93 args) w := enters Tryz.func93 (by kernel_rfl) (by kernel_rfl) _ _
theorem hit_zero' (S : Nat → C2) (F : Nat) (a : C2) (P : Nat → C2) : hitF S F 0 a P = S := funext (hit_zero S F a P)
theorem echo_miss {b : Bt} {t : Tg} {tm n N : Nat} {P S : Nat → C2} {p : Nat} (h : heardF (rowR b t tm p) (rowD b t tm p) = false) : echoS b t tm n N P S (p + 1) = echoS b t tm n N P S p := by
  rw [echoS, rowE, h]; rfl
theorem echo_hit {b : Bt} {t : Tg} {tm n N : Nat} {P S : Nat → C2} {p : Nat} (h : heardF (rowR b t tm p) (rowD b t tm p) = true) : echoS b t tm n N P S (p + 1) = hitF (echoS b t tm n N P S p) (p * b.E + intD (rowD b t tm p)) (min n (N - (p * b.E + intD (rowD b t tm p)))) (rowA b t tm p) P := by
  rw [echoS, rowE, if_pos h]
set_option maxHeartbeats 4000000 in
theorem t89 {w : World} {lo B b1 b2 b3 b4 cc vv rr E R pg po n pc tm N : Nat} {fp : Nat → Nat × Nat} {r s a t q : Nat} {d : List (Nat × Nat)} {S : Nat → C2}
    (hx : AX w B b1 b2 b3 b4 ⟨cc, vv, rr, E, R⟩ pg po n pc tm N fp) (hr : CRow lo w (.slice (some ⟨B, 0, none⟩) N N) d) (hS : ∀ i, i < N → ab2 d[i]! = S i) (hc : goodF (ab cc) = true) (hv : goodF (ab vv) = true) (ht : fin (ab t) = true) (hR : R ≤ 256) (hn : n ≤ 16384) (hN : R * E = N) (hN2 : N ≤ 262144) :
    Calls Tryz.prog 89 #[.agg #[.float .f64 r, .float .f64 s, .float .f64 a, .float .f64 t, .float .f64 q], .pointer (some ⟨b1, 0, none⟩), .pointer (some ⟨b2, 0, none⟩), .pointer (some ⟨b3, 0, none⟩), .pointer (some ⟨b4, 0, none⟩)] w
      (AL w lo B N (echoS ⟨cc, vv, rr, E, R⟩ ⟨r, s, a, t, q⟩ tm n N (fun i => ab2 (fp i)) S R)) := by
  have hBlt : B < w.heap.size := (World.ownsRow.lt hr _ rfl).2
  have HA0 : Hid (AA (w.alloc (.cells #[.float .f64 r, .float .f64 s, .float .f64 a, .float .f64 t, .float .f64 q] 41)) lo B b1 b2 b3 b4 ⟨cc, vv, rr, E, R⟩ pg po n pc tm N fp w.heap.size ⟨r, s, a, t, q⟩ d S) := by
    obtain ⟨k0, k1, k2, k3, k4⟩ := cells5 w r s a t q
    exact ⟨hx.but (But.of_up (Up.alloc _ _)), ⟨k0, k1, k2, k3, k4⟩, by omega, hr.up (Up.alloc _ _), hS⟩
  have HB0 : Hid (But B w (w.alloc (.cells #[.float .f64 r, .float .f64 s, .float .f64 a, .float .f64 t, .float .f64 q] 41))) := But.of_up (Up.alloc _ _)
  have HC : Hid (goodF (ab cc) = true ∧ goodF (ab vv) = true ∧ fin (ab t) = true) := ⟨hc, hv, ht⟩
  have HN : Hid (R * E = N) := hN
  have e4 := HA0.out.ax.bc.c4
  clear hx hr hS hc hv ht hN hBlt
  simp only at e4
  go_enter Tryz.func89, Tryz.ntmps89
  go_wp2
  generalize w.alloc (.cells #[.float .f64 r, .float .f64 s, .float .f64 a, .float .f64 t, .float .f64 q] 41) = w1 at *
  generalize w.heap.size = g at *
  clear e4
  go_loopw [6, 7, 8, 9, 10, 11, 12, 15] (fun _ _ _ _ _ _ _ vi wr => ∃ (p : Nat) (d : List (Nat × Nat)), p ≤ R ∧ vi = .int .i64 p ∧ Hid (AA wr lo B b1 b2 b3 b4 ⟨cc, vv, rr, E, R⟩ pg po n pc tm N fp g ⟨r, s, a, t, q⟩ d (echoS ⟨cc, vv, rr, E, R⟩ ⟨r, s, a, t, q⟩ tm n N (fun i => ab2 (fp i)) S p)) ∧ Hid (But B w wr)) (fun _ _ _ _ _ _ _ vi _ => R - (intOf vi).toNat)
  case atStart => exact ⟨0, d, by omega, rfl, HA0, HB0⟩
  case round =>
    clear HA0 HB0
    obtain ⟨p, d, hp, rfl, HA, HB⟩ := hrel
    by_cases hlt : p < R
    · have y1 : (p : Int) < (R : Int) := by omega
      have y2 : (0 : Int) ≤ (p : Int) := by omega
      obtain ⟨sn, hsn⟩ : ∃ sn, p * E = sn := ⟨_, rfl⟩
      have HSN : Hid (p * E = sn) := hsn
      have y3 : (p : Int) * (E : Int) = sn := by rw [← hsn, Int.natCast_mul]
      have y4 : sn ≤ 262144 := by
        rw [← hsn]
        have := Nat.mul_le_mul_right E (show p ≤ R by omega)
        have := HN.out
        omega
      clear hsn
      have a3 := HA.out.ax.bc.c3
      have a2 := HA.out.ax.bc.c2
      have ti := HA.out.ax.time
      have g0 := HA.out.t5.c0
      have g1 := HA.out.t5.c1
      have g2 := HA.out.t5.c2
      have g3 := HA.out.t5.c3
      have g4 := HA.out.t5.c4
      simp only at a3 a2 g0 g1 g2 g3 g4
      go_wp2_with (first
        | ((fail_if_success have := ha); (with_reducible refine upon_fl (by simp) ?_); intro xa na ha)
        | ((with_reducible refine upon_fl (by simp) ?_); intro x1 n1 h1))
      (with_reducible refine (t90 _ _ _ _ _ _ _).mono ?_)
      rintro e w2 ⟨x3, rfl, h3, U2⟩
      have HR3 : Hid (ab x3 = rowR ⟨cc, vv, rr, E, R⟩ ⟨r, s, a, t, q⟩ tm p) := by
        show _ = _
        rw [h3.out, h1.out, ha.out, ← y3]; rfl
      have HA2 : Hid (AA w2 lo B b1 b2 b3 b4 ⟨cc, vv, rr, E, R⟩ pg po n pc tm N fp g ⟨r, s, a, t, q⟩ d (echoS ⟨cc, vv, rr, E, R⟩ ⟨r, s, a, t, q⟩ tm n N (fun i => ab2 (fp i)) S p)) := HA.out.up ((Up.drewN _ _).trans U2)
      have HB2 : Hid (But B w w2) := HB.out.trans (But.of_up ((Up.drewN _ _).trans U2))
      clear HA HB a3 a2 ti g0 g1 g2 g3 g4 U2 h1 h3 ha
      have a0 := HA2.out.ax.bc.c0
      simp only at a0
      go_wp2_with (first
        | ((with_reducible refine upon_fl (by simp) ?_); intro x1 n1 h1)
        | (go_at_call 91; (with_reducible refine (t91 _ _).mono ?_); rintro e w3 ⟨x5, n5, rfl, rfl, h5⟩))
      have HX1 : Hid (ab x1 = bin .quo (ab x3) (ab cc)) := h1
      have HD5 : Hid (ab x5 = rowD ⟨cc, vv, rr, E, R⟩ ⟨r, s, a, t, q⟩ tm p) := by
        show _ = _
        rw [h5.out, h1.out, HR3.out]; rfl
      clear h1 a0
      (with_reducible refine (fin1 _ _ (by simp)).mono ?_)
      rintro e w3 ⟨rfl, hw⟩
      have HA3 : Hid (AA w3 lo B b1 b2 b3 b4 ⟨cc, vv, rr, E, R⟩ pg po n pc tm N fp g ⟨r, s, a, t, q⟩ d (echoS ⟨cc, vv, rr, E, R⟩ ⟨r, s, a, t, q⟩ tm n N (fun i => ab2 (fp i)) S p)) := by rw [hw]; exact HA2.out.up ((Up.drewN _ _).trans (Up.alloc _ _))
      have HB3 : Hid (But B w w3) := by rw [hw]; exact HB2.out.trans (But.of_up ((Up.drewN _ _).trans (Up.alloc _ _)))
      clear hw HA2 HB2
      cases hf : fin (ab x3)
      · have HH : Hid (heardF (rowR ⟨cc, vv, rr, E, R⟩ ⟨r, s, a, t, q⟩ tm p) (rowD ⟨cc, vv, rr, E, R⟩ ⟨r, s, a, t, q⟩ tm p) = false) := by
          show _ = _
          rw [← HR3.out, ← HD5.out]
          simp [heardF, hf]
        go_wp2
        go_roundw
        case rel => exact ⟨p + 1, d, by omega, by go_num, by rw [echo_miss HH.out]; exact HA3, HB3⟩
        case measure => simp [intOf]; omega
      · obtain ⟨xx, qx1, qx2⟩ := quo_is hf HC.out.1
        have N5 : isN x5 = false := floor_is h5.out (by
          have e : ab x1 = some xx := HX1.out.trans qx1
          cases hN : isN x1
          · rfl
          · rw [ab_none hN] at e; cases e)
        clear qx1 qx2 HX1 h5
        cases hl : ltF (ab x5) (ab 0)
        · cases hg : gtF (ab x5) (ab 4742290407621132288)
          · obtain ⟨K, k1, k2, k3⟩ := int_range N5 hl hg
            have HH : Hid (heardF (rowR ⟨cc, vv, rr, E, R⟩ ⟨r, s, a, t, q⟩ tm p) (rowD ⟨cc, vv, rr, E, R⟩ ⟨r, s, a, t, q⟩ tm p) = true) := by
              show _ = _
              rw [← HR3.out, ← HD5.out]
              simp [heardF, hf, hl, hg]
            have F2 : ∀ w : World, (convert 22 3 (.float .f64 x5)).run Tryz.prog w = .ok (.int .i64 K) w := fun w => run_conv x5 K k1 w
            have HK : Hid (intD (rowD ⟨cc, vv, rr, E, R⟩ ⟨r, s, a, t, q⟩ tm p) = K) := by show _ = _; rw [← HD5.out]; exact k2
            have a1 := HA3.out.ax.bc.c1
            have g2 := HA3.out.t5.c2
            have g3 := HA3.out.t5.c3
            simp only at a1 g2 g3
            clear k1 k2 N5 HD5
            obtain ⟨py, pz, pu, f1, f2, f3, f4⟩ := phase_is hf HC.out.2.1 HC.out.2.2
            have F3 : ∀ w : World, (binOp .mul 22 (.float .f64 4611686018427387904) (.float .f64 x3)).run Tryz.prog w = .ok (.float .f64 py) w := fun w => run_fl_some .mul 22 w f1
            have F4 : ∀ w : World, (binOp .quo 22 (.float .f64 py) (.float .f64 vv)).run Tryz.prog w = .ok (.float .f64 pz) w := fun w => run_fl_some .quo 22 w f2
            have F5 : ∀ w : World, (binOp .sub 22 (.float .f64 t) (.float .f64 pz)).run Tryz.prog w = .ok (.float .f64 pu) w := fun w => run_fl_some .sub 22 w f3
            have HPU : Hid (phaseF (ab t) (rowR ⟨cc, vv, rr, E, R⟩ ⟨r, s, a, t, q⟩ tm p) (ab vv) = ab pu) := by
              show _ = _
              rw [← HR3.out, f4]
            clear f1 f2 f3 f4
            go_wp2
            go_region_held3 (fun w' => w'.cell? ⟨g, 3, none⟩ = some (.float .f64 t) ∧ w'.cell? ⟨b1, 1, none⟩ = some (.float .f64 vv) ∧ w'.cell? ⟨g, 2, none⟩ = some (.float .f64 a))
              (first
                | go_keep
                | (go_split_ands; refine ⟨cell_up ?_ U4, cell_up ?_ U4, cell_up ?_ U4⟩ <;> assumption))
              (first
                | (go_at_call 53; (with_reducible refine (t53 _ _).mono ?_); rintro e w4 ⟨x6, x7, rfl, h6, h7, U4⟩)
                | (go_at_call 92; (with_reducible refine (t92 _ _ _ _).mono ?_); rintro e w5 ⟨x8, x9, n9, rfl, rfl, h8, h9⟩))
            have HA4 : Hid (AA (w4.drewN n9) lo B b1 b2 b3 b4 ⟨cc, vv, rr, E, R⟩ pg po n pc tm N fp g ⟨r, s, a, t, q⟩ d (echoS ⟨cc, vv, rr, E, R⟩ ⟨r, s, a, t, q⟩ tm n N (fun i => ab2 (fp i)) S p)) := HA3.out.up (((Up.drew _).trans U4).trans (Up.drewN _ _))
            have HB4 : Hid (But B w (w4.drewN n9)) := HB3.out.trans (But.of_up (((Up.drew _).trans U4).trans (Up.drewN _ _)))
            have HXA : Hid (rowA ⟨cc, vv, rr, E, R⟩ ⟨r, s, a, t, q⟩ tm p = (ab x8, ab x9)) := by
              show _ = _
              unfold rowA ampF
              rw [HPU.out, h8.out, h9.out, h6.out, h7.out]
            clear HA3 HB3 a1 g2 g3 F3 F4 F5 U4 h6 h7 h8 h9 HR3 HPU hf hl hg
            have pl := HA4.out.ax.pulse
            have sa := HA4.out.ax.samp
            obtain ⟨F, hF⟩ : ∃ F, sn + K = F := ⟨_, rfl⟩
            have HF : Hid (sn + K = F) := hF
            have y5 : (sn : Int) + (K : Int) = F := by omega
            have y6 : F ≤ 1074003968 := by omega
            obtain ⟨M, hM⟩ : ∃ M, min n (N - F) = M := ⟨_, rfl⟩
            have HM : Hid (min n (N - F) = M) := hM
            have zn : M ≤ n := by omega
            have zM : (M : Int) = n ∨ (M : Int) = (N : Int) - (F : Int) ∨ M = 0 ∧ (N : Int) - (F : Int) < 0 := by omega
            have zN : M = 0 ∨ F + M ≤ N := by omega
            clear hM hF
            go_wp2
            all_goals
              go_loopw [71] (fun vi wr => ∃ (k : Nat) (d : List (Nat × Nat)), k ≤ M ∧ vi = .int .i64 k ∧ Hid (AA wr lo B b1 b2 b3 b4 ⟨cc, vv, rr, E, R⟩ pg po n pc tm N fp g ⟨r, s, a, t, q⟩ d (hitF (echoS ⟨cc, vv, rr, E, R⟩ ⟨r, s, a, t, q⟩ tm n N (fun i => ab2 (fp i)) S p) F k (rowA ⟨cc, vv, rr, E, R⟩ ⟨r, s, a, t, q⟩ tm p) (fun i => ab2 (fp i)))) ∧ Hid (But B w wr)) (fun vi _ => M - (intOf vi).toNat)
              case atStart => exact ⟨0, d, by omega, rfl, by rw [hit_zero']; exact HA4, HB4⟩
              case round =>
                clear HA4 HB4 pl sa
                obtain ⟨k, d, hk, rfl, HA, HB⟩ := hrel
                by_cases hlk : k < M
                · have l1 : (k : Int) < (n : Int) := by omega
                  have l2 : (k : Int) < (N : Int) - (F : Int) := by omega
                  obtain ⟨I, hI⟩ : ∃ I, F + k = I := ⟨_, rfl⟩
                  have HI : Hid (F + k = I) := hI
                  have l3 : (F : Int) + (k : Int) = I := by omega
                  have l4 : (I : Int) < (N : Int) := by omega
                  have l5 : (0 : Int) ≤ (k : Int) := by omega
                  have l6 : (0 : Int) ≤ (I : Int) := by omega
                  have l7 : IntKind.i64.wrap (I : Int) = I := i64_id (by omega)
                  have HIN : Hid (I < N) := by show _ < _; omega
                  have HKN : Hid (k < n) := by show _ < _; omega
                  clear hI
                  have pl := HA.out.ax.pulse
                  have sa := HA.out.ax.samp
                  obtain ⟨x, y, HX, cx⟩ : ∃ x y, Hid (d[I]! = (x, y)) ∧ wr.cell? ⟨B, I, none⟩ = some (.complex .f64 x y) := ⟨_, _, rfl, HA.out.row.cell (by rw [HA.out.row.len]; exact HIN.out)⟩
                  obtain ⟨u, v, HU, cu⟩ : ∃ x y, Hid (fp k = (x, y)) ∧ wr.cell? ⟨pg, po + k, none⟩ = some (.complex .f64 x y) := ⟨_, _, rfl, HA.out.ax.rd k HKN.out⟩
                  have i1 : (wr.cell? ⟨B, I, none⟩).isSome = true := by rw [cx]; rfl
                  have f1 := HA.out.row.frz I
                  go_wp2_with fail
                  refine wp_region_ord 12 [(0, some false), (1, none), (2, none), (3, none), (4, none), (5, some false), (6, none), (7, some false), (8, none), (9, none), (10, some false), (11, some true)] (fun w' => AA w' lo B b1 b2 b3 b4 ⟨cc, vv, rr, E, R⟩ pg po n pc tm N fp g ⟨r, s, a, t, q⟩ d (hitF (echoS ⟨cc, vv, rr, E, R⟩ ⟨r, s, a, t, q⟩ tm n N (fun i => ab2 (fp i)) S p) F k (rowA ⟨cc, vv, rr, E, R⟩ ⟨r, s, a, t, q⟩ tm p) (fun i => ab2 (fp i)))) (by kernel_rfl) (by decide) rfl (by kernel_rfl) (fun _ _ d _ _ h => by cases d <;> exact h) (HA.out.up (Up.drew _)) ?_
                  refine ⟨_, .slice (some ⟨B, 0, none⟩) N N, some 74, rfl, rfl, Or.inl ⟨rfl, fun w' hS => ?_⟩, ?_⟩
                  · have c0 := hS.ax.samp
                    go_simp
                  refine ⟨_, .int .i64 F, some 75, rfl, rfl, Or.inl ⟨rfl, fun w' hS => ?_⟩, ?_⟩
                  · go_simp
                  refine ⟨_, .int .i64 k, some 76, rfl, rfl, Or.inl ⟨rfl, fun w' hS => ?_⟩, ?_⟩
                  · go_simp
                  refine ⟨_, .int .i64 I, some 77, rfl, rfl, Or.inl ⟨rfl, fun w' hS => ?_⟩, ?_⟩
                  · go_simp
                  refine ⟨_, .pointer (some ⟨B, I, none⟩), some 78, rfl, rfl, Or.inl ⟨rfl, fun w' hS => ?_⟩, ?_⟩
                  · go_simp
                  refine ⟨_, .complex .f64 x y, some 79, rfl, rfl, Or.inl ⟨rfl, fun w' hS => ?_⟩, ?_⟩
                  · have c0 := cell_of hS HX HIN
                    go_simp
                  refine ⟨_, .complex .f64 x8 x9, some 80, rfl, rfl, Or.inl ⟨rfl, fun w' hS => ?_⟩, ?_⟩
                  · go_simp
                  refine ⟨_, .slice (some ⟨pg, po, none⟩) n pc, some 81, rfl, rfl, Or.inl ⟨rfl, fun w' hS => ?_⟩, ?_⟩
                  · have c0 := hS.ax.pulse
                    go_simp
                  refine ⟨_, .int .i64 k, some 82, rfl, rfl, Or.inl ⟨rfl, fun w' hS => ?_⟩, ?_⟩
                  · go_simp
                  refine ⟨_, .pointer (some ⟨pg, po + k, none⟩), some 83, rfl, rfl, Or.inl ⟨rfl, fun w' hS => ?_⟩, ?_⟩
                  · go_simp
                  refine ⟨_, .complex .f64 u v, some 84, rfl, rfl, Or.inl ⟨rfl, fun w' hS => ?_⟩, ?_⟩
                  · have c0 := pulse_of hS HU HKN
                    go_simp
                  refine wpOp_call (f := 93) rfl rfl rfl #[.complex .f64 x8 x9, .complex .f64 u v] (by kernel_rfl) (eg93 _ _) ?_
                  refine (t93 _ _ _ _ _).mono ?_
                  rintro e w6 ⟨r3, s3, k3', rfl, rfl, hr3, hs3⟩
                  refine ⟨_, rfl, HA.out.up ((Up.drew _).trans (Up.drewN _ _)), ?_⟩
                  simp only [OrdW, List.drop_succ_cons, List.drop_zero, Act.put, List.setIfInBounds_toArray, List.set_cons_succ, List.set_cons_zero]
                  go_wp2_with ((with_reducible refine upon_cadd ?_); intro r4 s4 n4 hr4 hs4)
                  go_roundw
                  case rel =>
                    have P1 := (HA.out.up (Up.drewN _ (1 + k3' + n4))).put (x := r4) (y := s4) (G := hitF (echoS ⟨cc, vv, rr, E, R⟩ ⟨r, s, a, t, q⟩ tm n N (fun i => ab2 (fp i)) S p) F (k + 1) (rowA ⟨cc, vv, rr, E, R⟩ ⟨r, s, a, t, q⟩ tm p) (fun i => ab2 (fp i))) HIN.out (fun i hi => by
                      rw [hit_next, HI.out]
                      split
                      · rename_i e
                        subst e
                        have e1 := HA.out.at_ i hi
                        rw [HX.out] at e1
                        rw [← e1, HXA.out]
                        show addC (ab2 (x, y)) (mulC (ab x8, ab x9) (ab2 (fp k))) = ab2 (r4, s4)
                        rw [HU.out]
                        simp only [ab2, addC, mulC]
                        rw [hr4.out, hs4.out, hr3.out, hs3.out]
                      · rfl)
                    exact ⟨k + 1, _, by omega, by go_num, P1.1, (HB.out.trans (But.of_up (Up.drewN _ (1 + k3' + n4)))).trans P1.2⟩
                  case measure => simp [intOf]; omega
                · obtain rfl : k = M := by omega
                  first
                    | have l1 : ¬ (k : Int) < (N : Int) - (F : Int) := by omega
                    | have l1 : ¬ (k : Int) < (n : Int) := by omega
                  go_wp2
                  go_roundw
                  case rel =>
                    refine ⟨p + 1, d, by omega, by go_num, ?_, HB⟩
                    rw [echo_hit HH.out]
                    simp only
                    rw [HSN.out, HK.out, HF.out, HM.out]
                    exact HA
                  case measure => simp [intOf]; omega
          · have HH : Hid (heardF (rowR ⟨cc, vv, rr, E, R⟩ ⟨r, s, a, t, q⟩ tm p) (rowD ⟨cc, vv, rr, E, R⟩ ⟨r, s, a, t, q⟩ tm p) = false) := by
              show _ = _
              rw [← HR3.out, ← HD5.out]
              simp [heardF, hf, hl, hg]
            go_wp2
            go_roundw
            case rel => exact ⟨p + 1, d, by omega, by go_num, by rw [echo_miss HH.out]; exact HA3, HB3⟩
            case measure => simp [intOf]; omega
        · have HH : Hid (heardF (rowR ⟨cc, vv, rr, E, R⟩ ⟨r, s, a, t, q⟩ tm p) (rowD ⟨cc, vv, rr, E, R⟩ ⟨r, s, a, t, q⟩ tm p) = false) := by
            show _ = _
            rw [← HR3.out, ← HD5.out]
            simp [heardF, hf, hl]
          go_wp2
          go_roundw
          case rel => exact ⟨p + 1, d, by omega, by go_num, by rw [echo_miss HH.out]; exact HA3, HB3⟩
          case measure => simp [intOf]; omega
    · obtain rfl : p = R := by omega
      go_wp2
      go_end0
      exact ⟨d, rfl, HA.out.row, HB, HA.out.at_⟩
end Go.Proofs.YtflngnnoibkkoaaGreat
/- Scene: what adds echoes is made; rows are cut; noise is added. -/
namespace Go.Proofs.YtflngnnoibkkoaaGreat
open Go.ChangeShapes Go.WideShapes Go.ChangeAt Go.RowKit Go.Fl Ieee
set_option maxRecDepth 200000
set_option maxHeartbeats 8000000
attribute [local go_sem] run_store_float run_store_c isSome_set call34 call33 run_neg fold_eq fold_ne fold_lt fold_gt abs_eq

/-- What adder leaves. -/
def AM (w : World) (B : Nat) (b : Bt) (pg po n pc tm N : Nat) (fp : Nat → Nat × Nat) (e : Ending) (w' : World) : Prop :=
  ∃ b1 b2 b3 b4, e = .returned (.func (.func 89) #[] #[.pointer (some ⟨b1, 0, none⟩), .pointer (some ⟨b2, 0, none⟩), .pointer (some ⟨b3, 0, none⟩), .pointer (some ⟨b4, 0, none⟩)]) ∧ Hid (AX w' B b1 b2 b3 b4 b pg po n pc tm N fp) ∧ Hid (Up w w')
theorem t55 {w : World} {B c v r E R pg po n pc tm N : Nat} {fp : Nat → Nat × Nat} (hR : RD w pg po n fp) (hp : pg ≠ B) (hB : B < w.heap.size) :
    Calls Tryz.prog 55 #[.agg #[.float .f64 c, .float .f64 v, .float .f64 r, .int .i64 E, .int .i64 R], .slice (some ⟨pg, po, none⟩) n pc, .float .f64 tm, .slice (some ⟨B, 0, none⟩) N N] w (AM w B ⟨c, v, r, E, R⟩ pg po n pc tm N fp) := by
  have HP : Hid (RD w pg po n fp ∧ pg ≠ B ∧ B < w.heap.size) := ⟨hR, hp, hB⟩
  clear hR hp hB
  go_enter Tryz.func55, Tryz.ntmps55
  go_wp2
  go_ret
  refine ⟨_, _, _, _, rfl, ?_, (((Up.alloc _ _).trans (Up.alloc _ _)).trans (Up.alloc _ _)).trans (Up.alloc _ _)⟩
  obtain ⟨h1, h2, h3⟩ := HP.out
  have s1 := size_one w (.cells #[.float .f64 c, .float .f64 v, .float .f64 r, .int .i64 E, .int .i64 R] 24)
  have s2 := size_one (w.alloc (.cells #[.float .f64 c, .float .f64 v, .float .f64 r, .int .i64 E, .int .i64 R] 24)) (.cells #[.slice (some ⟨pg, po, none⟩) n pc] 34)
  have s3 := size_one ((w.alloc (.cells #[.float .f64 c, .float .f64 v, .float .f64 r, .int .i64 E, .int .i64 R] 24)).alloc (.cells #[.slice (some ⟨pg, po, none⟩) n pc] 34)) (.cells #[.float .f64 tm] 22)
  have k2 := new_cell (w.alloc (.cells #[.float .f64 c, .float .f64 v, .float .f64 r, .int .i64 E, .int .i64 R] 24)) #[.slice (some ⟨pg, po, none⟩) n pc] 34 0 _ rfl
  have k3 := new_cell ((w.alloc (.cells #[.float .f64 c, .float .f64 v, .float .f64 r, .int .i64 E, .int .i64 R] 24)).alloc (.cells #[.slice (some ⟨pg, po, none⟩) n pc] 34)) #[.float .f64 tm] 22 0 _ rfl
  have k4 := new_cell (((w.alloc (.cells #[.float .f64 c, .float .f64 v, .float .f64 r, .int .i64 E, .int .i64 R] 24)).alloc (.cells #[.slice (some ⟨pg, po, none⟩) n pc] 34)).alloc (.cells #[.float .f64 tm] 22)) #[.slice (some ⟨B, 0, none⟩) N N] 34 0 _ rfl
  rw [s1] at k2 s2
  rw [s2] at k3 s3
  rw [s3] at k4
  exact ⟨(BC.new w c v r E R).up (((Up.alloc _ _).trans (Up.alloc _ _)).trans (Up.alloc _ _)), cell_up k3 (Up.alloc _ _), cell_up k2 ((Up.alloc _ _).trans (Up.alloc _ _)), k4, h1.up ((((Up.alloc _ _).trans (Up.alloc _ _)).trans (Up.alloc _ _)).trans (Up.alloc _ _)), by omega, by omega, by omega, by omega, h2⟩
/-- The rows' values, of which k are laid. -/
structure CK (w wr : World) (A B n m k : Nat) : Prop where
  lo : w.heap.size ≤ A
  ans : ∃ l, l.length = n ∧ wr.ownsRow w.heap.size 34 1 (.slice (some ⟨A, 0, none⟩) n n) n l ∧ ∀ i, i < k → l[i]? = some (.slice (some ⟨B, i * m, none⟩) m m)
  up : Up w wr
theorem CK.start {w w0 w1 : World} {A B n m : Nat} (h0 : Up w w0) (h : MadeS n A w0 w1) : CK w w1 A B n m 0 := by
  obtain ⟨e1, r1, u1⟩ := h
  have := h0.size
  exact ⟨by omega, ⟨_, by simp, owns_down r1 (by omega), fun i hi => by omega⟩, h0.trans u1⟩
theorem CK.put {w wr w2 : World} {A B n m k x : Nat} (h : CK w wr A B n m k) (hu : Up wr w2) (hk : k < n) (hx : k * m = x) : CK w (w2.setCell ⟨A, k, none⟩ (.slice (some ⟨B, x, none⟩) m m)) A B n m (k + 1) ∧ But A w2 (w2.setCell ⟨A, k, none⟩ (.slice (some ⟨B, x, none⟩) m m)) := by
  obtain ⟨l, hl, h1, h2⟩ := h.ans
  obtain ⟨s1, s2⟩ := World.ownsRow.stored (owns_up h1 hu) k (.slice (some ⟨B, x, none⟩) m m)
  refine ⟨⟨h.lo, ⟨_, by simpa using hl, s1, fun i hi => ?_⟩, But.up s2 (h.up.trans hu) h.lo⟩, s2⟩
  rw [List.getElem?_set]
  by_cases e : k = i
  · subst e; rw [if_pos rfl, if_pos (by omega), hx]
  · rw [if_neg e]; exact h2 i (by omega)
theorem CK.cell {w wr w2 : World} {A B n m k : Nat} (h : CK w wr A B n m k) (hu : Up wr w2) (i : Nat) (hi : i < n) : ∃ v, w2.cell? ⟨A, i, none⟩ = some v ∧ w2.frozen? ⟨A, i, none⟩ = false := by
  obtain ⟨l, hl, h1, h2⟩ := h.ans
  have h1 := owns_up h1 hu
  exact ⟨l[i]'(by omega), by rw [World.ownsRow.cellAt h1 i (by omega), List.getElem?_eq_getElem (by omega)], World.ownsRow.frozenAt h1 i⟩
theorem CK.done {w wr : World} {A B n m : Nat} (h : CK w wr A B n m n) : TB wr A n (fun i => some ⟨B, i * m, none⟩) (fun _ => m) (fun _ => m) := by
  obtain ⟨l, hl, h1, h2⟩ := h.ans
  exact fun i hi => by rw [World.ownsRow.cellAt h1 i (by omega)]; exact h2 i hi
def CT (w : World) (B n m : Nat) (e : Ending) (w' : World) : Prop := ∃ A, e = .returned (.slice (some ⟨A, 0, none⟩) n n) ∧ Hid (w.heap.size ≤ A) ∧ Hid (TB w' A n (fun i => some ⟨B, i * m, none⟩) (fun _ => m) (fun _ => m)) ∧ Hid (Up w w')
theorem upon_makeSz {o : Oper} {a : Act} {next : Act → World → Prop} {Q : Exit → Act → World → Prop} {z : Int} {w : World} {F : Value → World → Result Next} (n : Nat) (hz : z = (n : Int)) (hn : n ≤ 1000000)
    (hk : ∀ g w', Hid (MadeS n g w w') → o.upon Tryz.prog a next Q (F (.slice (some ⟨g, 0, none⟩) n n) w')) :
    o.upon Tryz.prog a next Q (((Instr.makeSlice 37 (.int .i64 z) (.int .i64 z)).run Tryz.prog w).andThen F) := by
  subst hz; exact upon_makeS hn hk
theorem upon_makeCz {o : Oper} {a : Act} {next : Act → World → Prop} {Q : Exit → Act → World → Prop} {z : Int} {w : World} {F : Value → World → Result Next} (n : Nat) (hz : z = (n : Int)) (hn : n ≤ 1000000)
    (hk : ∀ g w', Hid (Made n g w w') → o.upon Tryz.prog a next Q (F (.slice (some ⟨g, 0, none⟩) n n) w')) :
    o.upon Tryz.prog a next Q (((Instr.makeSlice 34 (.int .i64 z) (.int .i64 z)).run Tryz.prog w).andThen F) := by
  subst hz; exact upon_makeC hn hk
set_option maxHeartbeats 2000000 in
theorem t58 {w : World} {c v r E R B N : Nat} (hE1 : 1 ≤ E) (hE : E ≤ 16384) (hR : R ≤ 256) (hN : R * E = N) (hN2 : N ≤ 262144) :
    Calls Tryz.prog 58 #[.agg #[.float .f64 c, .float .f64 v, .float .f64 r, .int .i64 E, .int .i64 R], .slice (some ⟨B, 0, none⟩) N N] w (CT w B R E) := by
  have HB := BC.new w c v r E R
  have HU : Hid (Up w (w.alloc (.cells #[.float .f64 c, .float .f64 v, .float .f64 r, .int .i64 E, .int .i64 R] 24))) := Up.alloc _ _
  obtain ⟨b0, b1, b2, b3, b4⟩ := HB
  have HN : Hid (R * E = N) := hN
  have hlo : Hid (w.heap.size < (w.alloc (.cells #[.float .f64 c, .float .f64 v, .float .f64 r, .int .i64 E, .int .i64 R] 24)).heap.size) := by show _ < _; rw [size_one]; omega
  clear hN b0 b1 b2
  go_enter Tryz.func58, Tryz.ntmps58
  go_wp2_with ((with_reducible refine upon_makeSz R rfl (by omega) ?_); intro A w1 HM
               have c3 := cell_up b3 HM.out.2.2
               have c4 := cell_up b4 HM.out.2.2)
  have HS : Hid (CK w w1 A B R E 0) := CK.start HU.out HM.out
  have HA : Hid (w.heap.size ≠ A) := by
    have := HM.out.1
    have := hlo.out
    show _ ≠ _; omega
  have HS' : Hid (Up w1 w1) := Up.refl _
  clear HM HU hlo b3 b4
  go_loopw [6, 7, 8, 14] (fun _ _ _ vi wr => ∃ (k : Nat), k ≤ R ∧ vi = .int .i64 k ∧ Hid (CK w wr A B R E k) ∧ Hid (But A w1 wr)) (fun _ _ _ vi _ => R - (intOf vi).toNat)
  case atStart => exact ⟨0, by omega, rfl, HS, But.refl _ _⟩
  case round =>
    clear HS HS'
    obtain ⟨k, hk, rfl, HS, HW⟩ := hrel
    by_cases hlt : k < R
    · have z1 : (k : Int) < (R : Int) := by omega
      have z2 : (0 : Int) ≤ (k : Int) := by omega
      have d3 := HW.out.cell HA.out c3
      obtain ⟨x, hx⟩ : ∃ x, k * E = x := ⟨_, rfl⟩
      obtain ⟨y, hy⟩ : ∃ y, (k + 1) * E = y := ⟨_, rfl⟩
      have hyx : y = x + E := by rw [← hx, ← hy, Nat.add_mul]; omega
      have hyK : y ≤ N := by rw [← hy, ← HN.out]; exact Nat.mul_le_mul_right _ hlt
      have HX : Hid (k * E = x) := hx
      have q1 : (k : Int) * (E : Int) = x := by rw [← hx, Int.natCast_mul]
      have q2 : ((k : Int) + 1) * (E : Int) = y := by rw [← hy, Int.natCast_mul]; rfl
      clear hx hy
      obtain ⟨v1, i1, f1⟩ := HS.out.cell (Up.refl _) k hlt
      have e1 : IntKind.i64.wrap (x : Int) = x := i64_id (by omega)
      have e2 : IntKind.i64.wrap (y : Int) = y := i64_id (by omega)
      subst hyx
      go_wp2
      go_quiet (fail)
      go_wp2
      go_roundw
      case rel =>
        have P1 := HS.out.put (Up.drewN _ nq) hlt HX.out
        exact ⟨k + 1, by omega, by go_num, P1.1, (HW.out.trans (But.of_up (Up.drewN _ nq))).trans P1.2⟩
      case measure => simp [intOf]; omega
    · obtain rfl : k = R := by omega
      go_wp2
      go_ret
      exact ⟨A, rfl, HS.out.lo, HS.out.done, HS.out.up⟩
/-- Noise, added to the first k samples. -/
def noiseS (S : Nat → C2) (s : Int) (x : Nat) (k i : Nat) : C2 := if i < k then addC (S i) (pairF (it s (24 * i)) x) else S i
theorem noise_next {S : Nat → C2} {s : Int} {x k i : Nat} : noiseS S s x (k + 1) i = if i = k then addC (noiseS S s x k i) (pairF (it s (24 * k)) x) else noiseS S s x k i := by
  unfold noiseS
  by_cases h : i = k
  · subst h
    rw [if_pos (by omega), if_pos rfl, if_neg (by omega)]
  · rw [if_neg h]
    by_cases h2 : i < k
    · rw [if_pos h2, if_pos (by omega)]
    · rw [if_neg h2, if_neg (by omega)]
theorem noise_zero (S : Nat → C2) (s : Int) (x : Nat) : noiseS S s x 0 = S := funext fun i => by unfold noiseS; rw [if_neg (by omega)]
/-- Samples and a source. -/
structure NS (w w1 wr : World) (B N sb : Nat) (s : Int) (x k : Nat) (S : Nat → C2) (d : List (Nat × Nat)) : Prop where
  row : CRow w.heap.size wr (.slice (some ⟨B, 0, none⟩) N N) d
  sc : SC wr sb (it s (24 * k))
  ne : B ≠ sb
  lo : w.heap.size ≤ B
  ls : w.heap.size ≤ sb
  up : Up w wr
  at_ : ∀ i, i < N → ab2 d[i]! = noiseS S s x k i
  keep : ∀ g o v, g ≠ B → g ≠ sb → w1.cell? ⟨g, o, none⟩ = some v → wr.cell? ⟨g, o, none⟩ = some v
def NL (w w1 : World) (B N sb : Nat) (F : Nat → C2) (e : Ending) (w' : World) : Prop := ∃ d, e = .returned (.tuple #[]) ∧ Hid (CRow w.heap.size w' (.slice (some ⟨B, 0, none⟩) N N) d) ∧ Hid (Up w w') ∧ Hid (∀ i, i < N → ab2 d[i]! = F i) ∧ Hid (∀ g o v, g ≠ B → g ≠ sb → w1.cell? ⟨g, o, none⟩ = some v → w'.cell? ⟨g, o, none⟩ = some v)
theorem NS.cell {w w1 wr : World} {B N sb : Nat} {s : Int} {x k : Nat} {S : Nat → C2} {d : List (Nat × Nat)} {r q : Nat} (h : NS w w1 wr B N sb s x k S d) (hk : k < N) (hx : Hid (d[k]! = (r, q))) : wr.cell? ⟨B, k, none⟩ = some (.complex .f64 r q) := by
  have := h.row.cell (i := k) (by rw [h.row.len]; exact hk)
  rw [hx.out] at this; exact this
theorem eg94 (args : Array Value) (w : World) : (callFunc 94 args).run Tryz.prog w = .ok (.enter 94 args) w := enters Tryz.func94 (by kernel_rfl) (by kernel_rfl) _ _
set_option maxHeartbeats 2000000 in
theorem t56 {w w1 : World} {B N sb x : Nat} {s : Int} {S : Nat → C2} {d : List (Nat × Nat)} (h : NS w w1 w1 B N sb s x 0 S d) (hN : N ≤ 262144) :
    Calls Tryz.prog 56 #[.slice (some ⟨B, 0, none⟩) N N, .pointer (some ⟨sb, 0, none⟩), .float .f64 x] w1 (NL w w1 B N sb (noiseS S s x N)) := by
  have H0 : Hid (NS w w1 w1 B N sb s x 0 S d) := h
  clear h
  go_enter Tryz.func56, Tryz.ntmps56
  go_wp2
  go_loopw [6, 9] (fun _ vi wr => ∃ (k : Nat) (d : List (Nat × Nat)), k ≤ N ∧ vi = .int .i64 k ∧ Hid (NS w w1 wr B N sb s x k S d)) (fun _ vi _ => N - (intOf vi).toNat)
  case atStart => exact ⟨0, d, by omega, rfl, H0⟩
  case round =>
    clear H0
    obtain ⟨k, d, hk, rfl, HS⟩ := hrel
    by_cases hlt : k < N
    · have z1 : (k : Int) < (N : Int) := by omega
      have z2 : (0 : Int) ≤ (k : Int) := by omega
      obtain ⟨r, q, HX⟩ : ∃ r q, Hid (d[k]! = (r, q)) := ⟨_, _, rfl⟩
      go_wp2_with fail
      refine wp_region_ord 7 [(0, none), (1, none), (2, none), (3, some false), (4, none), (5, none), (6, some true)] (fun w' => w'.cell? ⟨B, k, none⟩ = some (.complex .f64 r q)) (by kernel_rfl) (by decide) rfl (by kernel_rfl) (fun _ _ d _ _ h => by cases d <;> exact h) (cell_up (HS.out.cell hlt HX) (Up.drew _)) ?_
      refine ⟨_, .slice (some ⟨B, 0, none⟩) N N, some 12, rfl, rfl, Or.inl ⟨rfl, fun w' hS => ?_⟩, ?_⟩
      · go_simp
      refine ⟨_, .int .i64 k, some 13, rfl, rfl, Or.inl ⟨rfl, fun w' hS => ?_⟩, ?_⟩
      · go_simp
      refine ⟨_, .pointer (some ⟨B, k, none⟩), some 14, rfl, rfl, Or.inl ⟨rfl, fun w' hS => ?_⟩, ?_⟩
      · go_simp
      refine ⟨_, .complex .f64 r q, some 15, rfl, rfl, Or.inl ⟨rfl, fun w' hS => ?_⟩, ?_⟩
      · go_simp
      refine ⟨_, .pointer (some ⟨sb, 0, none⟩), some 16, rfl, rfl, Or.inl ⟨rfl, fun w' hS => ?_⟩, ?_⟩
      · go_simp
      refine ⟨_, .float .f64 x, some 17, rfl, rfl, Or.inl ⟨rfl, fun w' hS => ?_⟩, ?_⟩
      · go_simp
      refine wpOp_call (f := 94) rfl rfl rfl #[.pointer (some ⟨sb, 0, none⟩), .float .f64 x] (by kernel_rfl) (eg94 _ _) ?_
      refine (t94 (HS.out.sc.up (Up.drew _)) x).mono ?_
      rintro e w6 ⟨r3, s3, rfl, hr3, h3, hb3⟩
      have HU6 : Hid (Up w w6) := hb3.out.up (HS.out.up.trans (Up.drew _)) HS.out.ls
      have HR6 : Hid (CRow w.heap.size w6 (.slice (some ⟨B, 0, none⟩) N N) d) := (HS.out.row.up (Up.drew _)).far hb3.out HS.out.ne
      refine ⟨_, rfl, hb3.out.cell HS.out.ne (cell_up (HS.out.cell hlt HX) (Up.drew _)), ?_⟩
      have i1 : (w6.cell? ⟨B, k, none⟩).isSome = true := by rw [HR6.out.cell (by rw [HR6.out.len]; exact hlt)]; rfl
      have f1 := HR6.out.frz k
      simp only [OrdW, List.drop_succ_cons, List.drop_zero, Act.put, List.setIfInBounds_toArray, List.set_cons_succ, List.set_cons_zero]
      go_wp2_with ((with_reducible refine upon_cadd ?_); intro r4 s4 n4 hr4 hs4)
      go_roundw
      case rel =>
        have P1 := (HR6.out.up (Up.drewN _ n4)).put k r4 s4
        refine ⟨k + 1, _, by omega, by go_num, P1.1, ?_, HS.out.ne, HS.out.lo, HS.out.ls, P1.2.up (HU6.out.trans (Up.drewN _ _)) HS.out.lo, fun i hi => ?_, fun g o v n1 n2 hv => P1.2.cell n1 (cell_up (hb3.out.cell n2 (cell_up (HS.out.keep g o v n1 n2 hv) (Up.drew _))) (Up.drewN _ n4))⟩
        · have q := (h3.out.up (Up.drewN _ n4)).but P1.2 (Ne.symm HS.out.ne)
          rw [it_add, show 24 * k + 24 = 24 * (k + 1) by omega] at q
          exact q
        · rw [set_at _ _ _ _ (by rw [HR6.out.len]; exact hlt), noise_next]
          split
          · rename_i e
            subst e
            have e1 := HS.out.at_ i hi
            rw [HX.out] at e1
            rw [← e1, ← hr3.out]
            simp only [ab2, addC]
            rw [hr4.out, hs4.out]
          · exact HS.out.at_ i hi
      case measure => simp [intOf]; omega
    · obtain rfl : k = N := by omega
      go_wp2
      go_end0
      exact ⟨d, rfl, HS.out.row, HS.out.up, HS.out.at_, HS.out.keep⟩
end Go.Proofs.YtflngnnoibkkoaaGreat
/- Scene: Rows and Echo. -/
namespace Go.Proofs.YtflngnnoibkkoaaGreat
open Go.ChangeShapes Go.WideShapes Go.ChangeAt Go.RowKit Go.Fl Ieee
set_option maxRecDepth 200000
set_option maxHeartbeats 8000000
attribute [local go_sem] run_store_float run_store_c isSome_set call34 call33 run_neg fold_eq fold_ne fold_lt fold_gt abs_eq

/-- The samples of a scene: the first targets' echoes, one behind the other. -/
def sceneS (b : Bt) (f : Nat → Tg) (tm n N : Nat) (P : Nat → C2) : Nat → Nat → C2
  | 0 => fun _ => (some 0, some 0)
  | T + 1 => echoS b (f T) tm n N P (sceneS b f tm n N P T) b.R
/-- .. with noise behind them. -/
def finalS (b : Bt) (f : Nat → Tg) (tm n N : Nat) (P : Nat → C2) (T wd : Nat) (seed : Int) : Nat → C2 :=
  if gtF (ab wd) (ab 0) = true then noiseS (sceneS b f tm n N P T) seed wd N else sceneS b f tm n N P T
/-- All that stands behind the echoes so far. -/
structure RS (w wr : World) (B gb b1 b2 b3 b4 : Nat) (b : Bt) (pg po n pc tm N : Nat) (fp : Nat → Nat × Nat) (d : List (Nat × Nat)) (F : Nat → C2) : Prop where
  ax : AX wr B b1 b2 b3 b4 b pg po n pc tm N fp
  bc : BC wr gb b.c b.v b.r (b.E : Int) (b.R : Int)
  nb : gb ≠ B
  row : CRow w.heap.size wr (.slice (some ⟨B, 0, none⟩) N N) d
  lo : w.heap.size ≤ B
  up : Up w wr
  at_ : ∀ i, i < N → ab2 d[i]! = F i
theorem RS.grow {w wr w' : World} {B gb b1 b2 b3 b4 : Nat} {b : Bt} {pg po n pc tm N : Nat} {fp : Nat → Nat × Nat} {d : List (Nat × Nat)} {F : Nat → C2} (h : RS w wr B gb b1 b2 b3 b4 b pg po n pc tm N fp d F) (hu : Up wr w') : RS w w' B gb b1 b2 b3 b4 b pg po n pc tm N fp d F :=
  ⟨h.ax.but (But.of_up hu), h.bc.up hu, h.nb, h.row.up hu, h.lo, h.up.trans hu, h.at_⟩
theorem eg89 (args : Array Value) (w : World) : (callFunc 89 args).run Tryz.prog w = .ok (.enter 89 args) w := enters Tryz.func89 (by kernel_rfl) (by kernel_rfl) _ _
theorem zero_ab : ab2 (0, 0) = (some 0, some 0) := by decide +kernel
set_option maxHeartbeats 4000000 in
theorem t29 {w : World} {cc vv rr n pc tm wd T cp E R N pg po tg : Nat} {seed : Int} {p : Option Addr} {fp : Nat → Nat × Nat} {f : Nat → Tg}
    (h35 : ∀ W, Up w W → Calls Tryz.prog 54 #[.agg #[.float .f64 cc, .float .f64 vv, .float .f64 rr, .int .i64 E, .int .i64 R], .int .i64 n, .slice p T cp, .float .f64 tm, .float .f64 wd] W (IU W 0))
    (hc : goodF (ab cc) = true) (hv : goodF (ab vv) = true) (hE1 : 1 ≤ E) (hE : E ≤ 16384) (hR : R ≤ 256) (hN : R * E = N) (hN2 : N ≤ 262144) (hn1 : 1 ≤ n) (hn : n ≤ 16384) (hT : T ≤ 256)
    (hp : RD w pg po n fp) (ht : TL w tg T f) (htp : 0 < T → p = some ⟨tg, 0, none⟩) (hf : ∀ i, i < T → fin (ab (f i).t) = true) :
    Calls Tryz.prog 29 #[.agg #[.float .f64 cc, .float .f64 vv, .float .f64 rr, .int .i64 E, .int .i64 R], .slice (some ⟨pg, po, none⟩) n pc, .slice p T cp, .float .f64 tm, .float .f64 wd, .int .u64 seed] w
      (OKT w R E (fun k g => finalS ⟨cc, vv, rr, E, R⟩ f tm n N (fun i => ab2 (fp i)) T wd seed (k * E + g))) := by
  have H : Hid (∀ W, Up w W → Calls Tryz.prog 54 #[.agg #[.float .f64 cc, .float .f64 vv, .float .f64 rr, .int .i64 E, .int .i64 R], .int .i64 n, .slice p T cp, .float .f64 tm, .float .f64 wd] W (IU W 0)) := h35
  have HB0 := BC.new w cc vv rr E R
  have HC : Hid (goodF (ab cc) = true ∧ goodF (ab vv) = true ∧ ∀ i, i < T → fin (ab (f i).t) = true) := ⟨hc, hv, hf⟩
  have HN : Hid (R * E = N) := hN
  have hz : (R : Int) * (E : Int) = N := by rw [← hN, Int.natCast_mul]
  have e4 : IntKind.i64.wrap (N : Int) = N := i64_id (by omega)
  have HP : Hid (RD w pg po n fp) := hp
  have HT : Hid (TL w tg T f) := ht
  have HTP : Hid (0 < T → p = some ⟨tg, 0, none⟩) := htp
  have HPL : Hid (pg < w.heap.size) := World.block_lt_of_cell? w _ (hp 0 (by omega))
  have HTL : Hid (0 < T → tg < w.heap.size) := fun h => World.block_lt_of_cell? w _ (ht 0 h).1
  have HB : Hid (BC (w.alloc (.cells #[.float .f64 cc, .float .f64 vv, .float .f64 rr, .int .i64 E, .int .i64 R] 24)) w.heap.size cc vv rr (E : Int) (R : Int)) := HB0
  obtain ⟨b0, b1, b2, b3, b4⟩ := HB0
  clear h35 hc hv hf hN hp ht htp
  go_enter Tryz.func29, Tryz.ntmps29
  go_wp2_with (first
    | (go_at_call 54; (with_reducible refine (H.out _ (Up.alloc _ _)).mono ?_); rintro e w1 ⟨rfl, U1⟩
       have a3 := cell_up b3 U1.out
       have a4 := cell_up b4 U1.out)
    | ((with_reducible refine upon_makeCz N rfl (by omega) ?_); intro B w2 HM
       have d0 := cell_up (cell_up b0 U1.out) HM.out.2.2
       have d1 := cell_up (cell_up b1 U1.out) HM.out.2.2
       have d2 := cell_up (cell_up b2 U1.out) HM.out.2.2
       have d3 := cell_up a3 HM.out.2.2
       have d4 := cell_up a4 HM.out.2.2))
  have U2 : Hid (Up w w2) := ((Up.alloc _ _).trans U1.out).trans HM.out.2.2
  have HBL : Hid (w.heap.size < B ∧ B < w2.heap.size) := by
    have s1 := size_one w (.cells #[.float .f64 cc, .float .f64 vv, .float .f64 rr, .int .i64 E, .int .i64 R] 24)
    have s2 := U1.out.size
    have s3 := HM.out.1
    have s4 := (World.ownsRow.lt HM.out.2.1 _ rfl).2
    exact ⟨by omega, s4⟩
  (with_reducible refine (t55 (fp := fp) (HP.out.up U2.out) (by have := HPL.out; have := HBL.out.1; omega) HBL.out.2).mono ?_)
  rintro e w3 ⟨b1', b2', b3', b4', rfl, HX, U3⟩
  have HS0 : Hid (RS w w3 B w.heap.size b1' b2' b3' b4' ⟨cc, vv, rr, E, R⟩ pg po n pc tm N fp (List.replicate N (0, 0)) (sceneS ⟨cc, vv, rr, E, R⟩ f tm n N (fun i => ab2 (fp i)) 0)) := by
    refine ⟨HX.out, (HB.out.up U1.out).up (HM.out.2.2.trans U3.out), ?_, (HM.out.2.1.down ?_).up U3.out, ?_, U2.out.trans U3.out, fun i hi => ?_⟩
    · have := HBL.out.1; omega
    · have := HM.out.1; have := HBL.out.1; omega
    · have := HBL.out.1; omega
    · rw [getElem!_pos _ i (by simpa using hi), List.getElem_replicate, zero_ab]; rfl
  have e59 : ∀ args w, (callFunc 89 args).run Tryz.prog w = .ok (.enter 89 args) w := eg89
  have HBB : Hid (w.heap.size < B) := HBL.out.1
  clear HX U3 U1 HM HBL U2 d0 d1 d2 d3 d4 a3 a4 b0 b1 b2 b3 b4 HB H
  go_wp2
  go_loopw [42] (fun vi wr => ∃ (i : Nat) (d : List (Nat × Nat)), i ≤ T ∧ vi = .int .i64 i ∧ Hid (RS w wr B w.heap.size b1' b2' b3' b4' ⟨cc, vv, rr, E, R⟩ pg po n pc tm N fp d (sceneS ⟨cc, vv, rr, E, R⟩ f tm n N (fun i => ab2 (fp i)) i))) (fun vi _ => T - (intOf vi).toNat)
  case atStart => exact ⟨0, _, by omega, rfl, HS0⟩
  case round =>
    clear HS0
    obtain ⟨i, d, hi, rfl, HS⟩ := hrel
    by_cases hlt : i < T
    · obtain rfl := HTP.out (by omega)
      have z1 : (i : Int) < (T : Int) := by omega
      have z2 : (0 : Int) ≤ (i : Int) := by omega
      obtain ⟨h0, h1, h2, h3, h4⟩ := (HT.out.up HS.out.up) i hlt
      have HFT := HC.out.2.2 i hlt
      obtain ⟨tt, htt⟩ : ∃ tt, f i = tt := ⟨_, rfl⟩
      have HTT : Hid (f i = tt) := htt
      rw [htt] at h0 h1 h2 h3 h4 HFT
      clear htt
      obtain ⟨r, s, a, t, q⟩ := tt
      simp only at h0 h1 h2 h3 h4 HFT
      obtain ⟨d0, d1, d2, d3, d4⟩ := cells5 wr r s a t q
      have H59 : Hid (Calls Tryz.prog 89 #[.agg #[.float .f64 r, .float .f64 s, .float .f64 a, .float .f64 t, .float .f64 q], .pointer (some ⟨b1', 0, none⟩), .pointer (some ⟨b2', 0, none⟩), .pointer (some ⟨b3', 0, none⟩), .pointer (some ⟨b4', 0, none⟩)] (wr.alloc (.cells #[.float .f64 r, .float .f64 s, .float .f64 a, .float .f64 t, .float .f64 q] 41))
          (AL (wr.alloc (.cells #[.float .f64 r, .float .f64 s, .float .f64 a, .float .f64 t, .float .f64 q] 41)) w.heap.size B N (echoS ⟨cc, vv, rr, E, R⟩ ⟨r, s, a, t, q⟩ tm n N (fun i => ab2 (fp i)) (sceneS ⟨cc, vv, rr, E, R⟩ f tm n N (fun i => ab2 (fp i)) i) R))) :=
        t89 (HS.out.ax.but (But.of_up (Up.alloc _ _))) (HS.out.row.up (Up.alloc _ _)) HS.out.at_ HC.out.1 HC.out.2.1 HFT hR hn HN.out hN2
      clear HFT
      go_wp2_with fail
      (with_reducible refine H59.out.mono ?_)
      rintro e w4 ⟨d', rfl, HR4, HB4, HF4⟩
      have HS4 : Hid (RS w w4 B w.heap.size b1' b2' b3' b4' ⟨cc, vv, rr, E, R⟩ pg po n pc tm N fp d' (sceneS ⟨cc, vv, rr, E, R⟩ f tm n N (fun i => ab2 (fp i)) (i + 1))) := by
        have hs := HS.out.grow (Up.alloc wr (.cells #[.float .f64 r, .float .f64 s, .float .f64 a, .float .f64 t, .float .f64 q] 41))
        refine ⟨hs.ax.but HB4.out, hs.bc.but HB4.out hs.nb, hs.nb, HR4.out, hs.lo, HB4.out.up hs.up hs.lo, fun j hj => ?_⟩
        rw [HF4.out j hj, sceneS, HTT.out]
      clear HS HR4 HB4 HF4 H59
      go_wp2
      go_roundw
      case rel => exact ⟨i + 1, d', by omega, by go_num, HS4⟩
      case measure => simp [intOf]; omega
    · obtain rfl : i = T := by omega
      cases hg : gtF (ab wd) (ab 0)
      · have a0 := HS.out.bc.c0
        have a1 := HS.out.bc.c1
        have a2 := HS.out.bc.c2
        have a3 := HS.out.bc.c3
        have a4 := HS.out.bc.c4
        simp only at a0 a1 a2 a3 a4
        go_wp2_with (go_at_call 58; (with_reducible refine (t58 hE1 hE hR HN.out hN2).mono ?_); rintro e w5 ⟨A, rfl, HA, HTB, U5⟩)
        go_ret2
        refine ⟨A, B, d, rfl, ⟨?_, ?_, HS.out.lo, HTB.out, ?_, HS.out.up.trans U5.out⟩, fun k hk g hg' => ?_⟩
        · have q1 := (World.ownsRow.lt HS.out.row _ rfl).2
          have q2 := HA.out
          exact Nat.ne_of_gt (Nat.lt_of_lt_of_le q1 q2)
        · exact Nat.le_trans HS.out.up.size HA.out
        · rw [HN.out]; exact HS.out.row.up U5.out
        · rw [HS.out.at_ _ (by rw [← HN.out]; exact idx_lt hk hg')]
          unfold finalS
          rw [hg]; rfl
      · go_wp2_with (first
          | (go_at_call 57; (with_reducible refine (t57 _ _).mono ?_); rintro e w5 ⟨rfl, h5, U5⟩
             have HNS : Hid (NS w w5 w5 B N wr.heap.size seed wd 0 (sceneS ⟨cc, vv, rr, E, R⟩ f tm n N (fun i => ab2 (fp i)) i) d) := by
               have q1 := (World.ownsRow.lt HS.out.row _ rfl).2
               refine ⟨HS.out.row.up U5.out, h5.out, Nat.ne_of_lt q1, HS.out.lo, HS.out.up.size, HS.out.up.trans U5.out, fun j hj => ?_, fun _ _ _ _ _ h => h⟩
               rw [noise_zero]; exact HS.out.at_ j hj)
          | (go_at_call 56; (with_reducible refine (t56 HNS.out hN2).mono ?_); rintro e w6 ⟨d6, rfl, HR6, U6, HF6, HK6⟩
             have nb2 : w.heap.size ≠ wr.heap.size := Nat.ne_of_lt (World.block_lt_of_cell? wr _ HS.out.bc.c0)
             have nb1 := HS.out.nb
             have a0 := HK6.out _ _ _ nb1 nb2 (cell_up HS.out.bc.c0 U5.out)
             have a1 := HK6.out _ _ _ nb1 nb2 (cell_up HS.out.bc.c1 U5.out)
             have a2 := HK6.out _ _ _ nb1 nb2 (cell_up HS.out.bc.c2 U5.out)
             have a3 := HK6.out _ _ _ nb1 nb2 (cell_up HS.out.bc.c3 U5.out)
             have a4 := HK6.out _ _ _ nb1 nb2 (cell_up HS.out.bc.c4 U5.out)
             clear nb1 nb2
             simp only at a0 a1 a2 a3 a4)
          | (go_at_call 58; (with_reducible refine (t58 hE1 hE hR HN.out hN2).mono ?_); rintro e w7 ⟨A, rfl, HA, HTB, U7⟩))
        go_ret2
        refine ⟨A, B, d6, rfl, ⟨?_, ?_, HS.out.lo, HTB.out, ?_, U6.out.trans U7.out⟩, fun k hk g hg' => ?_⟩
        · have q1 := (World.ownsRow.lt HR6.out _ rfl).2
          have q2 := HA.out
          exact Nat.ne_of_gt (Nat.lt_of_lt_of_le q1 q2)
        · exact Nat.le_trans U6.out.size HA.out
        · rw [HN.out]; exact HR6.out.up U7.out
        · rw [HF6.out _ (by rw [← HN.out]; exact idx_lt hk hg')]
          unfold finalS
          rw [if_pos hg]
end Go.Proofs.YtflngnnoibkkoaaGreat
/- Scene: closed calls. -/
namespace Go.Proofs.YtflngnnoibkkoaaGreat
open Go.ChangeShapes Go.WideShapes Go.ChangeAt Go.RowKit Go.Fl Ieee
set_option maxRecDepth 200000
set_option maxHeartbeats 8000000
attribute [local go_sem] run_store_float run_store_c isSome_set call34 call33 run_neg fold_eq fold_ne fold_lt fold_gt abs_eq

def so (p : Nat × Nat) : Option Nat × Option Nat := (some p.1, some p.2)
theorem of_so {a p : Nat × Nat} (h : ab2 a = so p) : a = p := by
  simp only [ab2, so, Prod.mk.injEq] at h
  exact Prod.ext (of_ab h.1) (of_ab h.2)
/-- A table whose numbers are known. -/
def KT (w : World) (n m : Nat) (K : List (Nat × Nat)) (e : Ending) (w' : World) : Prop := ∃ A B, e = .returned (.tuple #[.slice (some ⟨A, 0, none⟩) n n, .int .i64 0]) ∧ Hid (TB w' A n (fun i => some ⟨B, i * m, none⟩) (fun _ => m) (fun _ => m)) ∧ Hid (RD w' B 0 (n * m) (fun j => K[j]!)) ∧ Hid (Up w w')
theorem OKT.known {w0 w w' : World} {n m : Nat} {F : Nat → Nat → Option Nat × Option Nat} {e : Ending} (h : OKT w n m F e w') (hu : Up w0 w) (K : List (Nat × Nat)) (h0 : 0 < m) (hF : ∀ k, k < n → ∀ g, g < m → F k g = so K[k * m + g]!) : KT w0 n m K e w' := by
  obtain ⟨A, B, d, he, h1, h2⟩ := h
  refine ⟨A, B, he, h1.out.ans, fun j hj => ?_, hu.trans h1.out.up⟩
  have e1 : j / m * m + j % m = j := by rw [Nat.mul_comm]; exact Nat.div_add_mod j m
  have l1 : j / m < n := (Nat.div_lt_iff_lt_mul h0).2 hj
  have l2 : j % m < m := Nat.mod_lt _ h0
  have q := (h2.out _ l1 _ l2).trans (hF _ l1 _ l2)
  rw [e1] at q
  rw [Nat.zero_add, h1.out.all.cell (by rw [h1.out.all.len]; exact hj), of_so q]
  rfl
/-- Targets of which all are finite, and others. -/
theorem all_fin {w : World} {g n c : Nat} {f : Nat → Tg} (h : TL w g n f) (hn : n ≤ 1000000) (hf : ∀ i, i < n → finT (f i) = true) (w' : World) (hu : Up w w') : Calls Tryz.prog 88 #[.slice (some ⟨g, 0, none⟩) n c] w' (BU true w') :=
  t88 g n c n f true w' (h.up hu) hn hf (Or.inr ⟨rfl, rfl⟩)
end Go.Proofs.YtflngnnoibkkoaaGreat

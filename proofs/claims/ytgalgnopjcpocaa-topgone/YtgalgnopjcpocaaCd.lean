/- Scene: the walk of what adds an echo. -/
import Derived.Test.YtgalgnopjcpocaaCc
import Derived.Test.YtgalgnopjcpocaaRh
namespace Go.Proofs.Ytgalgnopjcpocaa
open Go.ChangeShapes Go.WideShapes Go.ChangeAt Go.RowKit Go.Fl Ieee
attribute [local go_sem] run_store_float run_store_c isSome_set call20 call33 run_neg fold_eq fold_ne fold_lt fold_gt abs_eq

/-- What the closure leaves. -/
def AL (w : World) (lo B N : Nat) (F : Nat → C2) (e : Ending) (w' : World) : Prop := ∃ d, e = .returned (.tuple #[]) ∧ Hid (CRow lo w' (.slice (some ⟨B, 0, none⟩) N N) d) ∧ Hid (But B w w') ∧ Hid (∀ i, i < N → ab2 d[i]! = F i)
/-- All that a round may lean on. -/
structure AA (w : World) (lo B b1 b2 b3 b4 : Nat) (b : Bt) (pg po n pc tm N : Nat) (fp : Nat → Nat × Nat) (g : Nat) (t : Tg) (d : List (Nat × Nat)) (F : Nat → C2) : Prop where
  ax : AX w B b1 b2 b3 b4 b pg po n pc tm N fp
  t5 : T5 w g t
  ng : g ≠ B
  row : CRow lo w (.slice (some ⟨B, 0, none⟩) N N) d
  at_ : ∀ i, i < N → ab2 d[i]! = F i
theorem AA.up {w w' : World} {lo B b1 b2 b3 b4 : Nat} {b : Bt} {pg po n pc tm N : Nat} {fp : Nat → Nat × Nat} {g : Nat} {t : Tg} {d : List (Nat × Nat)} {F : Nat → C2} (h : AA w lo B b1 b2 b3 b4 b pg po n pc tm N fp g t d F) (hu : Up w w') : AA w' lo B b1 b2 b3 b4 b pg po n pc tm N fp g t d F :=
  ⟨h.ax.but (But.of_up hu), h.t5.but (But.of_up (g := B) hu) h.ng, h.ng, h.row.up hu, h.at_⟩
theorem AA.put {w : World} {lo B b1 b2 b3 b4 : Nat} {b : Bt} {pg po n pc tm N : Nat} {fp : Nat → Nat × Nat} {g : Nat} {t : Tg} {d : List (Nat × Nat)} {F G : Nat → C2} {I x y : Nat} (h : AA w lo B b1 b2 b3 b4 b pg po n pc tm N fp g t d F) (hI : I < N) (hG : ∀ i, i < N → G i = if i = I then ab2 (x, y) else F i) : AA (w.setCell ⟨B, I, none⟩ (.complex .f64 x y)) lo B b1 b2 b3 b4 b pg po n pc tm N fp g t (d.set I (x, y)) G ∧ But B w (w.setCell ⟨B, I, none⟩ (.complex .f64 x y)) := by
  obtain ⟨h1, h2⟩ := h.row.put I x y
  refine ⟨⟨h.ax.but h2, h.t5.but h2 h.ng, h.ng, h1, fun i hi => ?_⟩, h2⟩
  rw [set_at _ _ _ _ (by rw [h.row.len]; exact hI), hG i hi]
  split
  · rfl
  · exact h.at_ i hi
theorem cell_of {w : World} {lo B b1 b2 b3 b4 : Nat} {b : Bt} {pg po n pc tm N : Nat} {fp : Nat → Nat × Nat} {g : Nat} {t : Tg} {d : List (Nat × Nat)} {F : Nat → C2} {I x y : Nat} (h : AA w lo B b1 b2 b3 b4 b pg po n pc tm N fp g t d F) (hx : Hid (d[I]! = (x, y))) (hI : Hid (I < N)) : w.cell? ⟨B, I, none⟩ = some (.complex .f64 x y) := by
  have := h.row.cell (i := I) (by rw [h.row.len]; exact hI.out)
  rw [hx.out] at this; exact this
theorem pulse_of {w : World} {lo B b1 b2 b3 b4 : Nat} {b : Bt} {pg po n pc tm N : Nat} {fp : Nat → Nat × Nat} {g : Nat} {t : Tg} {d : List (Nat × Nat)} {F : Nat → C2} {k u v : Nat} (h : AA w lo B b1 b2 b3 b4 b pg po n pc tm N fp g t d F) (hx : Hid (fp k = (u, v))) (hk : Hid (k < n)) : w.cell? ⟨pg, po + k, none⟩ = some (.complex .f64 u v) := by
  have := h.ax.rd k hk.out
  rw [hx.out] at this; exact this
set_option maxRecDepth 20000 in
theorem eg60 (args : Array Value) (w : World) : (callFunc 60 args).run Try.prog w = .ok (.enter 60 args) w := enters Try.func60 (by kernel_rfl) (by kernel_rfl) _ _
theorem hit_zero' (S : Nat → C2) (F : Nat) (a : C2) (P : Nat → C2) : hitF S F 0 a P = S := funext (hit_zero S F a P)
theorem echo_miss {b : Bt} {t : Tg} {tm n N : Nat} {P S : Nat → C2} {p : Nat} (h : heardF (rowR b t tm p) (rowD b t tm p) = false) : echoS b t tm n N P S (p + 1) = echoS b t tm n N P S p := by
  rw [echoS, rowE, h]; rfl
theorem echo_hit {b : Bt} {t : Tg} {tm n N : Nat} {P S : Nat → C2} {p : Nat} (h : heardF (rowR b t tm p) (rowD b t tm p) = true) : echoS b t tm n N P S (p + 1) = hitF (echoS b t tm n N P S p) (p * b.E + intD (rowD b t tm p)) (min n (N - (p * b.E + intD (rowD b t tm p)))) (rowA b t tm p) P := by
  rw [echoS, rowE, if_pos h]
set_option maxRecDepth 100000 in
set_option maxHeartbeats 4000000 in
theorem t56 {w : World} {lo B b1 b2 b3 b4 cc vv rr E R pg po n pc tm N : Nat} {fp : Nat → Nat × Nat} {r s a t q : Nat} {d : List (Nat × Nat)} {S : Nat → C2}
    (hx : AX w B b1 b2 b3 b4 ⟨cc, vv, rr, E, R⟩ pg po n pc tm N fp) (hr : CRow lo w (.slice (some ⟨B, 0, none⟩) N N) d) (hS : ∀ i, i < N → ab2 d[i]! = S i) (hc : goodF (ab cc) = true) (hv : goodF (ab vv) = true) (ht : fin (ab t) = true) (hR : R ≤ 256) (hn : n ≤ 16384) (hN : R * E = N) (hN2 : N ≤ 262144) :
    Calls Try.prog 56 #[.agg #[.float .f64 r, .float .f64 s, .float .f64 a, .float .f64 t, .float .f64 q], .pointer (some ⟨b1, 0, none⟩), .pointer (some ⟨b2, 0, none⟩), .pointer (some ⟨b3, 0, none⟩), .pointer (some ⟨b4, 0, none⟩)] w
      (AL w lo B N (echoS ⟨cc, vv, rr, E, R⟩ ⟨r, s, a, t, q⟩ tm n N (fun i => ab2 (fp i)) S R)) := by
  have hBlt : B < w.heap.size := (World.ownsRow.lt hr _ rfl).2
  have HA0 : Hid (AA (w.alloc (.cells #[.float .f64 r, .float .f64 s, .float .f64 a, .float .f64 t, .float .f64 q] 67)) lo B b1 b2 b3 b4 ⟨cc, vv, rr, E, R⟩ pg po n pc tm N fp w.heap.size ⟨r, s, a, t, q⟩ d S) := by
    obtain ⟨k0, k1, k2, k3, k4⟩ := cells5 w r s a t q
    exact ⟨hx.but (But.of_up (Up.alloc _ _)), ⟨k0, k1, k2, k3, k4⟩, by omega, hr.up (Up.alloc _ _), hS⟩
  have HB0 : Hid (But B w (w.alloc (.cells #[.float .f64 r, .float .f64 s, .float .f64 a, .float .f64 t, .float .f64 q] 67))) := But.of_up (Up.alloc _ _)
  have HC : Hid (goodF (ab cc) = true ∧ goodF (ab vv) = true ∧ fin (ab t) = true) := ⟨hc, hv, ht⟩
  have HN : Hid (R * E = N) := hN
  have e4 := HA0.out.ax.bc.c4
  clear hx hr hS hc hv ht hN hBlt
  simp only at e4
  go_enter Try.func56, Try.ntmps56
  go_wp2
  generalize w.alloc (.cells #[.float .f64 r, .float .f64 s, .float .f64 a, .float .f64 t, .float .f64 q] 67) = w1 at *
  generalize w.heap.size = g at *
  clear e4
  go_loopw [6, 7, 8, 9, 10, 11, 12, 15] (fun _ _ _ _ _ _ _ vi wr => ∃ (p : Nat) (d : List (Nat × Nat)), p ≤ R ∧ vi = .int .i64 p ∧ Hid (AA wr lo B b1 b2 b3 b4 ⟨cc, vv, rr, E, R⟩ pg po n pc tm N fp g ⟨r, s, a, t, q⟩ d (echoS ⟨cc, vv, rr, E, R⟩ ⟨r, s, a, t, q⟩ tm n N (fun i => ab2 (fp i)) S p)) ∧ Hid (But B w wr)) (fun _ _ _ _ _ _ _ vi _ => R - (intOf vi).toNat)
  case atStart => exact ⟨0, d, by omega, rfl, HA0, HB0⟩
  case round =>
    clear HA0 HB0
    obtain ⟨p, d, hp, rfl, HA, HB⟩ := hrel
    by_cases hlt : p < R
    · have y1 : (p : Int) < (R : Int) := by omega
      have y2 : (0 : Int) ≤ (p : Int) := by omega
      obtain ⟨sn, hsn⟩ : ∃ sn, p * E = sn := ⟨_, rfl⟩
      have HSN : Hid (p * E = sn) := hsn
      have y3 : (p : Int) * (E : Int) = sn := by rw [← hsn, Int.natCast_mul]
      have y4 : sn ≤ 262144 := by
        rw [← hsn]
        have := Nat.mul_le_mul_right E (show p ≤ R by omega)
        have := HN.out
        omega
      clear hsn
      have a3 := HA.out.ax.bc.c3
      have a2 := HA.out.ax.bc.c2
      have ti := HA.out.ax.time
      have g0 := HA.out.t5.c0
      have g1 := HA.out.t5.c1
      have g2 := HA.out.t5.c2
      have g3 := HA.out.t5.c3
      have g4 := HA.out.t5.c4
      simp only at a3 a2 g0 g1 g2 g3 g4
      go_wp2_with (first
        | ((fail_if_success have := ha); (with_reducible refine upon_fl (by simp) ?_); intro xa na ha)
        | ((with_reducible refine upon_fl (by simp) ?_); intro x1 n1 h1))
      (with_reducible refine (t57 _ _ _ _ _ _ _).mono ?_)
      rintro e w2 ⟨x3, rfl, h3, U2⟩
      have HR3 : Hid (ab x3 = rowR ⟨cc, vv, rr, E, R⟩ ⟨r, s, a, t, q⟩ tm p) := by
        show _ = _
        rw [h3.out, h1.out, ha.out, ← y3]; rfl
      have HA2 : Hid (AA w2 lo B b1 b2 b3 b4 ⟨cc, vv, rr, E, R⟩ pg po n pc tm N fp g ⟨r, s, a, t, q⟩ d (echoS ⟨cc, vv, rr, E, R⟩ ⟨r, s, a, t, q⟩ tm n N (fun i => ab2 (fp i)) S p)) := HA.out.up ((Up.drewN _ _).trans U2)
      have HB2 : Hid (But B w w2) := HB.out.trans (But.of_up ((Up.drewN _ _).trans U2))
      clear HA HB a3 a2 ti g0 g1 g2 g3 g4 U2 h1 h3 ha
      have a0 := HA2.out.ax.bc.c0
      simp only at a0
      go_wp2_with (first
        | ((with_reducible refine upon_fl (by simp) ?_); intro x1 n1 h1)
        | (go_at_call 58; (with_reducible refine (t58 _ _).mono ?_); rintro e w3 ⟨x5, n5, rfl, rfl, h5⟩))
      have HX1 : Hid (ab x1 = bin .quo (ab x3) (ab cc)) := h1
      have HD5 : Hid (ab x5 = rowD ⟨cc, vv, rr, E, R⟩ ⟨r, s, a, t, q⟩ tm p) := by
        show _ = _
        rw [h5.out, h1.out, HR3.out]; rfl
      clear h1 a0
      (with_reducible refine (fin1 _ _ (by simp)).mono ?_)
      rintro e w3 ⟨rfl, hw⟩
      have HA3 : Hid (AA w3 lo B b1 b2 b3 b4 ⟨cc, vv, rr, E, R⟩ pg po n pc tm N fp g ⟨r, s, a, t, q⟩ d (echoS ⟨cc, vv, rr, E, R⟩ ⟨r, s, a, t, q⟩ tm n N (fun i => ab2 (fp i)) S p)) := by rw [hw]; exact HA2.out.up ((Up.drewN _ _).trans (Up.alloc _ _))
      have HB3 : Hid (But B w w3) := by rw [hw]; exact HB2.out.trans (But.of_up ((Up.drewN _ _).trans (Up.alloc _ _)))
      clear hw HA2 HB2
      cases hf : fin (ab x3)
      · have HH : Hid (heardF (rowR ⟨cc, vv, rr, E, R⟩ ⟨r, s, a, t, q⟩ tm p) (rowD ⟨cc, vv, rr, E, R⟩ ⟨r, s, a, t, q⟩ tm p) = false) := by
          show _ = _
          rw [← HR3.out, ← HD5.out]
          simp [heardF, hf]
        go_wp2
        go_roundw
        case rel => exact ⟨p + 1, d, by omega, by go_num, by rw [echo_miss HH.out]; exact HA3, HB3⟩
        case measure => simp [intOf]; omega
      · obtain ⟨xx, qx1, qx2⟩ := quo_is hf HC.out.1
        have N5 : isN x5 = false := floor_is h5.out (by
          have e : ab x1 = some xx := HX1.out.trans qx1
          cases hN : isN x1
          · rfl
          · rw [ab_none hN] at e; cases e)
        clear qx1 qx2 HX1 h5
        cases hl : ltF (ab x5) (ab 0)
        · cases hg : gtF (ab x5) (ab 4742290407621132288)
          · obtain ⟨K, k1, k2, k3⟩ := int_range N5 hl hg
            have HH : Hid (heardF (rowR ⟨cc, vv, rr, E, R⟩ ⟨r, s, a, t, q⟩ tm p) (rowD ⟨cc, vv, rr, E, R⟩ ⟨r, s, a, t, q⟩ tm p) = true) := by
              show _ = _
              rw [← HR3.out, ← HD5.out]
              simp [heardF, hf, hl, hg]
            have F2 : ∀ w : World, (convert 26 3 (.float .f64 x5)).run Try.prog w = .ok (.int .i64 K) w := fun w => run_conv x5 K k1 w
            have HK : Hid (intD (rowD ⟨cc, vv, rr, E, R⟩ ⟨r, s, a, t, q⟩ tm p) = K) := by show _ = _; rw [← HD5.out]; exact k2
            have a1 := HA3.out.ax.bc.c1
            have g2 := HA3.out.t5.c2
            have g3 := HA3.out.t5.c3
            simp only at a1 g2 g3
            clear k1 k2 N5 HD5
            obtain ⟨py, pz, pu, f1, f2, f3, f4⟩ := phase_is hf HC.out.2.1 HC.out.2.2
            have F3 : ∀ w : World, (binOp .mul 26 (.float .f64 4611686018427387904) (.float .f64 x3)).run Try.prog w = .ok (.float .f64 py) w := fun w => run_fl_some .mul 26 w f1
            have F4 : ∀ w : World, (binOp .quo 26 (.float .f64 py) (.float .f64 vv)).run Try.prog w = .ok (.float .f64 pz) w := fun w => run_fl_some .quo 26 w f2
            have F5 : ∀ w : World, (binOp .sub 26 (.float .f64 t) (.float .f64 pz)).run Try.prog w = .ok (.float .f64 pu) w := fun w => run_fl_some .sub 26 w f3
            have HPU : Hid (phaseF (ab t) (rowR ⟨cc, vv, rr, E, R⟩ ⟨r, s, a, t, q⟩ tm p) (ab vv) = ab pu) := by
              show _ = _
              rw [← HR3.out, f4]
            clear f1 f2 f3 f4
            go_wp2
            go_region_held3 (fun w' => w'.cell? ⟨g, 3, none⟩ = some (.float .f64 t) ∧ w'.cell? ⟨b1, 1, none⟩ = some (.float .f64 vv) ∧ w'.cell? ⟨g, 2, none⟩ = some (.float .f64 a))
              (first
                | go_keep
                | (go_split_ands; refine ⟨cell_up ?_ U4, cell_up ?_ U4, cell_up ?_ U4⟩ <;> assumption))
              (first
                | (go_at_call 51; (with_reducible refine (t51 _ _).mono ?_); rintro e w4 ⟨x6, x7, rfl, h6, h7, U4⟩)
                | (go_at_call 59; (with_reducible refine (t59 _ _ _ _).mono ?_); rintro e w5 ⟨x8, x9, n9, rfl, rfl, h8, h9⟩))
            have HA4 : Hid (AA (w4.drewN n9) lo B b1 b2 b3 b4 ⟨cc, vv, rr, E, R⟩ pg po n pc tm N fp g ⟨r, s, a, t, q⟩ d (echoS ⟨cc, vv, rr, E, R⟩ ⟨r, s, a, t, q⟩ tm n N (fun i => ab2 (fp i)) S p)) := HA3.out.up (((Up.drew _).trans U4).trans (Up.drewN _ _))
            have HB4 : Hid (But B w (w4.drewN n9)) := HB3.out.trans (But.of_up (((Up.drew _).trans U4).trans (Up.drewN _ _)))
            have HXA : Hid (rowA ⟨cc, vv, rr, E, R⟩ ⟨r, s, a, t, q⟩ tm p = (ab x8, ab x9)) := by
              show _ = _
              unfold rowA ampF
              rw [HPU.out, h8.out, h9.out, h6.out, h7.out]
            clear HA3 HB3 a1 g2 g3 F3 F4 F5 U4 h6 h7 h8 h9 HR3 HPU hf hl hg
            have pl := HA4.out.ax.pulse
            have sa := HA4.out.ax.samp
            obtain ⟨F, hF⟩ : ∃ F, sn + K = F := ⟨_, rfl⟩
            have HF : Hid (sn + K = F) := hF
            have y5 : (sn : Int) + (K : Int) = F := by omega
            have y6 : F ≤ 1074003968 := by omega
            obtain ⟨M, hM⟩ : ∃ M, min n (N - F) = M := ⟨_, rfl⟩
            have HM : Hid (min n (N - F) = M) := hM
            have zn : M ≤ n := by omega
            have zM : (M : Int) = n ∨ (M : Int) = (N : Int) - (F : Int) ∨ M = 0 ∧ (N : Int) - (F : Int) < 0 := by omega
            have zN : M = 0 ∨ F + M ≤ N := by omega
            clear hM hF
            go_wp2
            all_goals
              go_loopw [71] (fun vi wr => ∃ (k : Nat) (d : List (Nat × Nat)), k ≤ M ∧ vi = .int .i64 k ∧ Hid (AA wr lo B b1 b2 b3 b4 ⟨cc, vv, rr, E, R⟩ pg po n pc tm N fp g ⟨r, s, a, t, q⟩ d (hitF (echoS ⟨cc, vv, rr, E, R⟩ ⟨r, s, a, t, q⟩ tm n N (fun i => ab2 (fp i)) S p) F k (rowA ⟨cc, vv, rr, E, R⟩ ⟨r, s, a, t, q⟩ tm p) (fun i => ab2 (fp i)))) ∧ Hid (But B w wr)) (fun vi _ => M - (intOf vi).toNat)
              case atStart => exact ⟨0, d, by omega, rfl, by rw [hit_zero']; exact HA4, HB4⟩
              case round =>
                clear HA4 HB4 pl sa
                obtain ⟨k, d, hk, rfl, HA, HB⟩ := hrel
                by_cases hlk : k < M
                · have l1 : (k : Int) < (n : Int) := by omega
                  have l2 : (k : Int) < (N : Int) - (F : Int) := by omega
                  obtain ⟨I, hI⟩ : ∃ I, F + k = I := ⟨_, rfl⟩
                  have HI : Hid (F + k = I) := hI
                  have l3 : (F : Int) + (k : Int) = I := by omega
                  have l4 : (I : Int) < (N : Int) := by omega
                  have l5 : (0 : Int) ≤ (k : Int) := by omega
                  have l6 : (0 : Int) ≤ (I : Int) := by omega
                  have l7 : IntKind.i64.wrap (I : Int) = I := i64_id (by omega)
                  have HIN : Hid (I < N) := by show _ < _; omega
                  have HKN : Hid (k < n) := by show _ < _; omega
                  clear hI
                  have pl := HA.out.ax.pulse
                  have sa := HA.out.ax.samp
                  obtain ⟨x, y, HX, cx⟩ : ∃ x y, Hid (d[I]! = (x, y)) ∧ wr.cell? ⟨B, I, none⟩ = some (.complex .f64 x y) := ⟨_, _, rfl, HA.out.row.cell (by rw [HA.out.row.len]; exact HIN.out)⟩
                  obtain ⟨u, v, HU, cu⟩ : ∃ x y, Hid (fp k = (x, y)) ∧ wr.cell? ⟨pg, po + k, none⟩ = some (.complex .f64 x y) := ⟨_, _, rfl, HA.out.ax.rd k HKN.out⟩
                  have i1 : (wr.cell? ⟨B, I, none⟩).isSome = true := by rw [cx]; rfl
                  have f1 := HA.out.row.frz I
                  go_wp2_with fail
                  refine wp_region_ord 12 [(0, some false), (1, none), (2, none), (3, none), (4, none), (5, some false), (6, none), (7, some false), (8, none), (9, none), (10, some false), (11, some true)] (fun w' => AA w' lo B b1 b2 b3 b4 ⟨cc, vv, rr, E, R⟩ pg po n pc tm N fp g ⟨r, s, a, t, q⟩ d (hitF (echoS ⟨cc, vv, rr, E, R⟩ ⟨r, s, a, t, q⟩ tm n N (fun i => ab2 (fp i)) S p) F k (rowA ⟨cc, vv, rr, E, R⟩ ⟨r, s, a, t, q⟩ tm p) (fun i => ab2 (fp i)))) (by kernel_rfl) (by decide) rfl (by kernel_rfl) (fun _ _ d _ _ h => by cases d <;> exact h) (HA.out.up (Up.drew _)) ?_
                  refine ⟨_, .slice (some ⟨B, 0, none⟩) N N, some 74, rfl, rfl, Or.inl ⟨rfl, fun w' hS => ?_⟩, ?_⟩
                  · have c0 := hS.ax.samp
                    go_simp
                  refine ⟨_, .int .i64 F, some 75, rfl, rfl, Or.inl ⟨rfl, fun w' hS => ?_⟩, ?_⟩
                  · go_simp
                  refine ⟨_, .int .i64 k, some 76, rfl, rfl, Or.inl ⟨rfl, fun w' hS => ?_⟩, ?_⟩
                  · go_simp
                  refine ⟨_, .int .i64 I, some 77, rfl, rfl, Or.inl ⟨rfl, fun w' hS => ?_⟩, ?_⟩
                  · go_simp
                  refine ⟨_, .pointer (some ⟨B, I, none⟩), some 78, rfl, rfl, Or.inl ⟨rfl, fun w' hS => ?_⟩, ?_⟩
                  · go_simp
                  refine ⟨_, .complex .f64 x y, some 79, rfl, rfl, Or.inl ⟨rfl, fun w' hS => ?_⟩, ?_⟩
                  · have c0 := cell_of hS HX HIN
                    go_simp
                  refine ⟨_, .complex .f64 x8 x9, some 80, rfl, rfl, Or.inl ⟨rfl, fun w' hS => ?_⟩, ?_⟩
                  · go_simp
                  refine ⟨_, .slice (some ⟨pg, po, none⟩) n pc, some 81, rfl, rfl, Or.inl ⟨rfl, fun w' hS => ?_⟩, ?_⟩
                  · have c0 := hS.ax.pulse
                    go_simp
                  refine ⟨_, .int .i64 k, some 82, rfl, rfl, Or.inl ⟨rfl, fun w' hS => ?_⟩, ?_⟩
                  · go_simp
                  refine ⟨_, .pointer (some ⟨pg, po + k, none⟩), some 83, rfl, rfl, Or.inl ⟨rfl, fun w' hS => ?_⟩, ?_⟩
                  · go_simp
                  refine ⟨_, .complex .f64 u v, some 84, rfl, rfl, Or.inl ⟨rfl, fun w' hS => ?_⟩, ?_⟩
                  · have c0 := pulse_of hS HU HKN
                    go_simp
                  refine wpOp_call (f := 60) rfl rfl rfl #[.complex .f64 x8 x9, .complex .f64 u v] (by kernel_rfl) (eg60 _ _) ?_
                  refine (t60 _ _ _ _ _).mono ?_
                  rintro e w6 ⟨r3, s3, k3', rfl, rfl, hr3, hs3⟩
                  refine ⟨_, rfl, HA.out.up ((Up.drew _).trans (Up.drewN _ _)), ?_⟩
                  simp only [OrdW, List.drop_succ_cons, List.drop_zero, Act.put, List.setIfInBounds_toArray, List.set_cons_succ, List.set_cons_zero]
                  go_wp2_with ((with_reducible refine upon_cadd ?_); intro r4 s4 n4 hr4 hs4)
                  go_roundw
                  case rel =>
                    have P1 := (HA.out.up (Up.drewN _ (1 + k3' + n4))).put (x := r4) (y := s4) (G := hitF (echoS ⟨cc, vv, rr, E, R⟩ ⟨r, s, a, t, q⟩ tm n N (fun i => ab2 (fp i)) S p) F (k + 1) (rowA ⟨cc, vv, rr, E, R⟩ ⟨r, s, a, t, q⟩ tm p) (fun i => ab2 (fp i))) HIN.out (fun i hi => by
                      rw [hit_next, HI.out]
                      split
                      · rename_i e
                        subst e
                        have e1 := HA.out.at_ i hi
                        rw [HX.out] at e1
                        rw [← e1, HXA.out]
                        show addC (ab2 (x, y)) (mulC (ab x8, ab x9) (ab2 (fp k))) = ab2 (r4, s4)
                        rw [HU.out]
                        simp only [ab2, addC, mulC]
                        rw [hr4.out, hs4.out, hr3.out, hs3.out]
                      · rfl)
                    exact ⟨k + 1, _, by omega, by go_num, P1.1, (HB.out.trans (But.of_up (Up.drewN _ (1 + k3' + n4)))).trans P1.2⟩
                  case measure => simp [intOf]; omega
                · obtain rfl : k = M := by omega
                  first
                    | have l1 : ¬ (k : Int) < (N : Int) - (F : Int) := by omega
                    | have l1 : ¬ (k : Int) < (n : Int) := by omega
                  go_wp2
                  go_roundw
                  case rel =>
                    refine ⟨p + 1, d, by omega, by go_num, ?_, HB⟩
                    rw [echo_hit HH.out]
                    simp only
                    rw [HSN.out, HK.out, HF.out, HM.out]
                    exact HA
                  case measure => simp [intOf]; omega
          · have HH : Hid (heardF (rowR ⟨cc, vv, rr, E, R⟩ ⟨r, s, a, t, q⟩ tm p) (rowD ⟨cc, vv, rr, E, R⟩ ⟨r, s, a, t, q⟩ tm p) = false) := by
              show _ = _
              rw [← HR3.out, ← HD5.out]
              simp [heardF, hf, hl, hg]
            go_wp2
            go_roundw
            case rel => exact ⟨p + 1, d, by omega, by go_num, by rw [echo_miss HH.out]; exact HA3, HB3⟩
            case measure => simp [intOf]; omega
        · have HH : Hid (heardF (rowR ⟨cc, vv, rr, E, R⟩ ⟨r, s, a, t, q⟩ tm p) (rowD ⟨cc, vv, rr, E, R⟩ ⟨r, s, a, t, q⟩ tm p) = false) := by
            show _ = _
            rw [← HR3.out, ← HD5.out]
            simp [heardF, hf, hl]
          go_wp2
          go_roundw
          case rel => exact ⟨p + 1, d, by omega, by go_num, by rw [echo_miss HH.out]; exact HA3, HB3⟩
          case measure => simp [intOf]; omega
    · obtain rfl : p = R := by omega
      go_wp2
      go_end0
      exact ⟨d, rfl, HA.out.row, HB, HA.out.at_⟩
end Go.Proofs.Ytgalgnopjcpocaa

/- Seen, the document's. -/
import Derived.Test.YtdolfkgnehiecaaAd
namespace Go.Proofs.Ytdolfkgnehiecaa
open Go.ChangeShapes Go.WideShapes Go.ChangeAt Go.RowKit Go.Fl Ieee
attribute [local go_sem] run_store_float call28 call35 run_neg fold_eq fold_ne fold_lt fold_gt abs_eq

set_option maxHeartbeats 2000000 in
theorem t17 (x v a b c p q : Nat) (w : World) : Calls Try.prog 17 #[.agg #[.float .f64 x, .float .f64 v, .float .f64 a, .float .f64 b, .float .f64 c], .float .f64 p, .float .f64 q] w (SR w (seenF ⟨ab x, ab v, ab a, ab b, ab c⟩ (ab p) (ab q))) := by
  have HB := BC.new w x v a b c
  obtain ⟨b0, b1, b2, b3, b4⟩ := HB
  cases HG : gtF (bin .add (ab a) (ab q)) (ab 0) with
  | false =>
    have HK : Hid (seenF ⟨ab x, ab v, ab a, ab b, ab c⟩ (ab p) (ab q) = ⟨ab x, ab v, ab a, ab b, ab c⟩) := by show _ = _; unfold seenF widF; rw [if_neg (by simp [HG])]
    go_enter Try.func17, Try.ntmps17
    go_wp2_with (first
      | ((with_reducible refine upon_fl (op := .add) (x := a) (by simp) ?_); intro rw nrw kw; have HW : gtF (ab rw) (ab 0) = false := by rw [kw.out]; exact HG)
      | ((with_reducible refine upon_fl (op := .sub) (x := p) (by simp) ?_); intro ry nry ky)
      | ((with_reducible refine upon_fl (op := .quo) (x := a) (by simp) ?_); intro rk nrk kk; simp only [kw.out] at kk)
      | ((with_reducible refine upon_fl (op := .quo) (x := b) (by simp) ?_); intro rh nrh kh; simp only [kw.out] at kh)
      | ((with_reducible refine upon_fl (op := .mul) (x := rk) (y := ry) (by simp) ?_); intro p1 np1 j1; simp only [kk.out, ky.out] at j1)
      | ((with_reducible refine upon_fl (op := .add) (x := x) (by simp) ?_); intro p2 np2 j2; simp only [j1.out] at j2)
      | ((with_reducible refine upon_fl (op := .mul) (x := rh) (y := ry) (by simp) ?_); intro p3 np3 j3; simp only [kh.out, ky.out] at j3)
      | ((with_reducible refine upon_fl (op := .add) (x := v) (by simp) ?_); intro p4 np4 j4; simp only [j3.out] at j4)
      | ((with_reducible refine upon_fl (op := .mul) (x := rk) (y := q) (by simp) ?_); intro u1 nu1 i1; simp only [kk.out] at i1; have HL2 : ltF (ab u1) (ab a) = None := by rw [i1.out]; exact HL)
      | ((with_reducible refine upon_fl (op := .mul) (x := rh) (y := q) (by simp) ?_); intro u2 nu2 i2; simp only [kh.out] at i2)
      | ((with_reducible refine upon_fl (op := .mul) (x := rh) (y := b) (by simp) ?_); intro u3 nu3 i3; simp only [kh.out] at i3)
      | ((with_reducible refine upon_fl (op := .sub) (x := c) (by simp) ?_); intro u4 nu4 i4; simp only [i3.out] at i4)
      | (go_at_call 33; (with_reducible refine (t33 _ _).mono ?_); rintro e w' ⟨u5, m5, rfl, rfl, i5⟩; simp only [i4.out] at i5))
    exact bodyPost_ret (results_cell_row Try.results17 _ _ _ 24 #[.float .f64 x, .float .f64 v, .float .f64 a, .float .f64 b, .float .f64 c] (0, 0) _ rfl (set5 (alloc2_last _ _ _) rfl _ _ _ _ _) Try.underlying24 rfl (by kernel_rfl)) rfl ⟨x, v, a, b, c, rfl, by rw [HK.out]; exact ⟨rfl, rfl, rfl, rfl, rfl⟩, up_set5 (Up.three _ _ _ _) (by omega) _ _ _ _ _⟩
  | true =>
    cases HL : ltF (bin .mul (bin .quo (ab a) (bin .add (ab a) (ab q))) (ab q)) (ab a) with
    | false =>
      go_enter Try.func17, Try.ntmps17
      go_wp2_with (first
        | ((with_reducible refine upon_fl (op := .add) (x := a) (by simp) ?_); intro rw nrw kw; have HW : gtF (ab rw) (ab 0) = true := by rw [kw.out]; exact HG)
        | ((with_reducible refine upon_fl (op := .sub) (x := p) (by simp) ?_); intro ry nry ky)
        | ((with_reducible refine upon_fl (op := .quo) (x := a) (by simp) ?_); intro rk nrk kk; simp only [kw.out] at kk)
        | ((with_reducible refine upon_fl (op := .quo) (x := b) (by simp) ?_); intro rh nrh kh; simp only [kw.out] at kh)
        | ((with_reducible refine upon_fl (op := .mul) (x := rk) (y := ry) (by simp) ?_); intro p1 np1 j1; simp only [kk.out, ky.out] at j1)
        | ((with_reducible refine upon_fl (op := .add) (x := x) (by simp) ?_); intro p2 np2 j2; simp only [j1.out] at j2)
        | ((with_reducible refine upon_fl (op := .mul) (x := rh) (y := ry) (by simp) ?_); intro p3 np3 j3; simp only [kh.out, ky.out] at j3)
        | ((with_reducible refine upon_fl (op := .add) (x := v) (by simp) ?_); intro p4 np4 j4; simp only [j3.out] at j4)
        | ((with_reducible refine upon_fl (op := .mul) (x := rk) (y := q) (by simp) ?_); intro u1 nu1 i1; simp only [kk.out] at i1; have HL2 : ltF (ab u1) (ab a) = false := by rw [i1.out]; exact HL)
        | ((with_reducible refine upon_fl (op := .mul) (x := rh) (y := q) (by simp) ?_); intro u2 nu2 i2; simp only [kh.out] at i2)
        | ((with_reducible refine upon_fl (op := .mul) (x := rh) (y := b) (by simp) ?_); intro u3 nu3 i3; simp only [kh.out] at i3)
        | ((with_reducible refine upon_fl (op := .sub) (x := c) (by simp) ?_); intro u4 nu4 i4; simp only [i3.out] at i4)
        | (go_at_call 33; (with_reducible refine (t33 _ _).mono ?_); rintro e w' ⟨u5, m5, rfl, rfl, i5⟩; simp only [i4.out] at i5))
      refine bodyPost_ret (results_cell_row Try.results17 _ _ _ 24 #[.float .f64 p2, .float .f64 p4, .float .f64 a, .float .f64 u2, .float .f64 u5] (0, 0) _ rfl (set5 (c := #[.float .f64 0, .float .f64 0, .float .f64 0, .float .f64 0, .float .f64 0]) (two_block (o := .cells #[.float .f64 x, .float .f64 v, .float .f64 a, .float .f64 b, .float .f64 c] 24) ?_) rfl _ _ _ _ _) Try.underlying24 rfl (by kernel_rfl)) rfl ⟨p2, p4, a, u2, u5, rfl, ?_, up_set5 ?_ (by omega) _ _ _ _ _⟩
      · repeat' first | exact Up.refl _ | refine Up.cell ?_ ?_ _ _ | refine Up.dr ?_ _ | refine Up.al ?_ _
        all_goals (rw [size2]; omega)
      · show _ ∧ _ ∧ _ ∧ _ ∧ _
        unfold seenF widF lesF
        rw [if_pos HG]
        simp [HL, j2.out, j4.out, i2.out, i5.out]
      · repeat' first | exact Up.refl _ | refine Up.cell ?_ ?_ _ _ | refine Up.dr ?_ _ | refine Up.al ?_ _
        all_goals omega
    | true =>
      go_enter Try.func17, Try.ntmps17
      go_wp2_with (first
        | ((with_reducible refine upon_fl (op := .add) (x := a) (by simp) ?_); intro rw nrw kw; have HW : gtF (ab rw) (ab 0) = true := by rw [kw.out]; exact HG)
        | ((with_reducible refine upon_fl (op := .sub) (x := p) (by simp) ?_); intro ry nry ky)
        | ((with_reducible refine upon_fl (op := .quo) (x := a) (by simp) ?_); intro rk nrk kk; simp only [kw.out] at kk)
        | ((with_reducible refine upon_fl (op := .quo) (x := b) (by simp) ?_); intro rh nrh kh; simp only [kw.out] at kh)
        | ((with_reducible refine upon_fl (op := .mul) (x := rk) (y := ry) (by simp) ?_); intro p1 np1 j1; simp only [kk.out, ky.out] at j1)
        | ((with_reducible refine upon_fl (op := .add) (x := x) (by simp) ?_); intro p2 np2 j2; simp only [j1.out] at j2)
        | ((with_reducible refine upon_fl (op := .mul) (x := rh) (y := ry) (by simp) ?_); intro p3 np3 j3; simp only [kh.out, ky.out] at j3)
        | ((with_reducible refine upon_fl (op := .add) (x := v) (by simp) ?_); intro p4 np4 j4; simp only [j3.out] at j4)
        | ((with_reducible refine upon_fl (op := .mul) (x := rk) (y := q) (by simp) ?_); intro u1 nu1 i1; simp only [kk.out] at i1; have HL2 : ltF (ab u1) (ab a) = true := by rw [i1.out]; exact HL)
        | ((with_reducible refine upon_fl (op := .mul) (x := rh) (y := q) (by simp) ?_); intro u2 nu2 i2; simp only [kh.out] at i2)
        | ((with_reducible refine upon_fl (op := .mul) (x := rh) (y := b) (by simp) ?_); intro u3 nu3 i3; simp only [kh.out] at i3)
        | ((with_reducible refine upon_fl (op := .sub) (x := c) (by simp) ?_); intro u4 nu4 i4; simp only [i3.out] at i4)
        | (go_at_call 33; (with_reducible refine (t33 _ _).mono ?_); rintro e w' ⟨u5, m5, rfl, rfl, i5⟩; simp only [i4.out] at i5))
      refine bodyPost_ret (results_cell_row Try.results17 _ _ _ 24 #[.float .f64 p2, .float .f64 p4, .float .f64 u1, .float .f64 u2, .float .f64 u5] (0, 0) _ rfl (set5 (c := #[.float .f64 0, .float .f64 0, .float .f64 0, .float .f64 0, .float .f64 0]) (two_block (o := .cells #[.float .f64 x, .float .f64 v, .float .f64 a, .float .f64 b, .float .f64 c] 24) ?_) rfl _ _ _ _ _) Try.underlying24 rfl (by kernel_rfl)) rfl ⟨p2, p4, u1, u2, u5, rfl, ?_, up_set5 ?_ (by omega) _ _ _ _ _⟩
      · repeat' first | exact Up.refl _ | refine Up.cell ?_ ?_ _ _ | refine Up.dr ?_ _ | refine Up.al ?_ _
        all_goals (rw [size2]; omega)
      · show _ ∧ _ ∧ _ ∧ _ ∧ _
        unfold seenF widF lesF
        rw [if_pos HG]
        simp [HL, j2.out, j4.out, i1.out, i2.out, i5.out]
      · repeat' first | exact Up.refl _ | refine Up.cell ?_ ?_ _ _ | refine Up.dr ?_ _ | refine Up.al ?_ _
        all_goals omega
end Go.Proofs.Ytdolfkgnehiecaa

/- Ahead, the document's. -/
import Derived.Test.YtcgbmcnefolgcaaAb
namespace Go.Proofs.Ytcgbmcnefolgcaa
open Go.ChangeShapes Go.WideShapes Go.ChangeAt Go.RowKit Go.Fl Ieee
attribute [local go_sem] run_store_float call22 call54 run_neg fold_eq fold_ne fold_lt fold_gt abs_eq

set_option maxHeartbeats 2000000 in
theorem t61 (x v a b c t q : Nat) (w : World) : Calls Try.prog 61 #[.agg #[.float .f64 x, .float .f64 v, .float .f64 a, .float .f64 b, .float .f64 c], .float .f64 t, .float .f64 q] w (SR w (aheadF ⟨ab x, ab v, ab a, ab b, ab c⟩ (ab t) (ab q))) := by
  have HB := BC.new w x v a b c
  obtain ⟨b0, b1, b2, b3, b4⟩ := HB
  cases HG : gtF (ab t) (ab 0) with
  | false =>
    have HK : Hid (aheadF ⟨ab x, ab v, ab a, ab b, ab c⟩ (ab t) (ab q) = ⟨ab x, ab v, ab a, ab b, ab c⟩) := by show _ = _; unfold aheadF; rw [if_neg (by simp [HG])]
    go_enter Try.func61, Try.ntmps61
    go_wp2
    exact bodyPost_ret (results_cell_row Try.results61 _ _ _ 27 #[.float .f64 x, .float .f64 v, .float .f64 a, .float .f64 b, .float .f64 c] (0, 0) _ rfl (alloc2_last _ _ _) Try.underlying27 rfl (by kernel_rfl)) rfl ⟨x, v, a, b, c, rfl, by rw [HK.out]; exact ⟨rfl, rfl, rfl, rfl, rfl⟩, Up.alloc2 _ _ _⟩
  | true =>
    go_enter Try.func61, Try.ntmps61
    go_wp2_with (first
      | ((with_reducible refine upon_fl (op := .mul) (x := b) (by simp) ?_); intro ra nra ka)
      | ((with_reducible refine upon_fl (op := .mul) (x := c) (by simp) ?_); intro rb nrb kb)
      | ((with_reducible refine upon_fl (op := .mul) (x := q) (by simp) ?_); intro rq nrq kq)
      | ((with_reducible refine upon_fl (op := .mul) (x := v) (by simp) ?_); intro rv nrv kv)
      | ((with_reducible refine upon_fl (op := .add) (x := x) (by simp) ?_); intro rx nrx kx; simp only [kv.out] at kx)
      | ((with_reducible refine upon_fl (op := .add) (x := a) (by simp) ?_); intro p1 np1 j1; simp only [ka.out] at j1)
      | ((with_reducible refine upon_fl (op := .add) (x := p1) (by simp) ?_); intro p2 np2 j2; simp only [j1.out, ka.out] at j2)
      | ((with_reducible refine upon_fl (op := .mul) (x := rb) (by simp) ?_); intro p3 np3 j3; simp only [kb.out] at j3)
      | ((with_reducible refine upon_fl (op := .add) (x := p2) (by simp) ?_); intro p4 np4 j4; simp only [j2.out, j3.out] at j4)
      | ((with_reducible refine upon_fl (op := .add) (x := p4) (by simp) ?_); intro p5 np5 j5; simp only [j4.out, k3.out] at j5)
      | ((with_reducible refine upon_fl (op := .add) (x := b) (by simp) ?_); intro u1 nu1 i1; simp only [kb.out] at i1)
      | ((with_reducible refine upon_fl (op := .add) (x := u1) (by simp) ?_); intro u2 nu2 i2; simp only [i1.out, k2.out] at i2)
      | ((with_reducible refine upon_fl (op := .add) (x := c) (by simp) ?_); intro u3 nu3 i3; simp only [kq.out] at i3)
      | ((with_reducible refine upon_fl (op := .mul) (x := rq) (by simp) ?_); intro s1 ns1 l1; simp only [kq.out] at l1)
      | ((with_reducible refine upon_fl (op := .mul) (x := s1) (by simp) ?_); intro s2 ns2 l2; simp only [l1.out] at l2)
      | ((with_reducible refine upon_fl (op := .quo) (y := 4611686018427387904) (by simp) ?_); intro r2 n2 k2; simp only [l1.out] at k2)
      | ((with_reducible refine upon_fl (op := .quo) (y := 4613937818241073152) (by simp) ?_); intro r3 n3 k3; simp only [l2.out] at k3)
      | (go_at_call 65; (with_reducible refine (t65 _ _).mono ?_); rintro e w' ⟨p6, m6, rfl, rfl, j6⟩; simp only [j5.out] at j6))
    refine bodyPost_ret (results_cell_row Try.results61 _ _ _ 27 #[.float .f64 rx, .float .f64 v, .float .f64 p6, .float .f64 u2, .float .f64 u3] (0, 0) _ rfl (set5 (c := #[.float .f64 0, .float .f64 0, .float .f64 0, .float .f64 0, .float .f64 0]) (two_block (o := .cells #[.float .f64 x, .float .f64 v, .float .f64 a, .float .f64 b, .float .f64 c] 27) ?_) rfl _ _ _ _ _) Try.underlying27 rfl (by kernel_rfl)) rfl ⟨rx, v, p6, u2, u3, rfl, ?_, up_set5 ?_ (by omega) _ _ _ _ _⟩
    · repeat' first | exact Up.refl _ | refine Up.cell ?_ ?_ _ _ | refine Up.dr ?_ _ | refine Up.al ?_ _
      all_goals (rw [size2]; omega)
    · show _ ∧ _ ∧ _ ∧ _ ∧ _
      unfold aheadF
      rw [if_pos HG]
      simp only [kx.out, j6.out, i2.out, i3.out, and_self]
    · repeat' first | exact Up.refl _ | refine Up.cell ?_ ?_ _ _ | refine Up.dr ?_ _ | refine Up.al ?_ _
      all_goals omega
end Go.Proofs.Ytcgbmcnefolgcaa

/- A plot's rank, and how two plots stand to each other: the program's. -/
import Derived.Test.YtijfmaepoamkgabRz
import Derived.StillTailTactics
import Derived.Laws.Rows
namespace Go.Proofs.Ytijfmaepoamkgab
open Go.ChangeShapes Go.WideShapes Go.ChangeAt Go.RowKit Go.Fl Go.Sort
attribute [local go_sem] run_store_float call18 run_neg fold_eq fold_ne fold_lt fold_gt abs_eq

theorem t56 (x : Nat) (w : World) (hx : x < 2 ^ 64) : Calls Try.prog 56 #[.float .f64 x] w fun e w' => e = .returned (.int .u64 (key x)) ∧ w' = w := by
  cases hN : isN x
  · rcases Nat.lt_or_ge x (2 ^ 63) with hl | hg
    · have h1 := and_top x hx
      rw [if_pos hl] at h1
      have h2 := or_top x hl
      have hk : key x = x + 2 ^ 63 := by unfold key; rw [hN, if_pos hl]; rfl
      rw [hk]
      go_enter Try.func56, Try.ntmps56
      go_wp2_with (go_at_call 49; refine (t49 _ _).mono ?_; rintro e w' ⟨rfl, rfl⟩; rw [hN])
      go_ret
      exact ⟨rfl, rfl⟩
    · have h1 := and_top x hx
      rw [if_neg (by omega)] at h1
      have h2 := xor_top x hx
      have hk : key x = 2 ^ 64 - 1 - x := by unfold key; rw [hN, if_neg (by simp), if_neg (by omega)]
      rw [hk]
      go_enter Try.func56, Try.ntmps56
      go_wp2_with (go_at_call 49; refine (t49 _ _).mono ?_; rintro e w' ⟨rfl, rfl⟩; rw [hN])
      go_ret
      exact ⟨rfl, rfl⟩
  · have hk : key x = 18446744073709551615 := key_nan hN
    rw [hk]
    go_enter Try.func56, Try.ntmps56
    go_wp2_with (go_at_call 49; refine (t49 _ _).mono ?_; rintro e w' ⟨rfl, rfl⟩; rw [hN])
    go_ret
    exact ⟨rfl, rfl⟩
theorem t55 (x : Nat) (w : World) (hx : x < 2 ^ 64) : Calls Try.prog 55 #[.float .f64 x] w fun e w' => e = .returned (.int .u64 (fall x)) ∧ w' = w := by
  cases hN : isN x
  · have h2 := xor_top (key x) (key_lt hx)
    have hk : fall x = 2 ^ 64 - 1 - key x := by unfold fall; rw [hN]; rfl
    rw [hk]
    go_enter Try.func55, Try.ntmps55
    go_wp2_with (first | (go_at_call 49; refine (t49 _ _).mono ?_; rintro e w' ⟨rfl, rfl⟩; rw [hN]) | (go_at_call 56; refine (t56 _ _ hx).mono ?_; rintro e w' ⟨rfl, rfl⟩))
    go_ret
    exact ⟨rfl, rfl⟩
  · have hk : fall x = 18446744073709551615 := by unfold fall; rw [hN]; rfl
    rw [hk]
    go_enter Try.func55, Try.ntmps55
    go_wp2_with (go_at_call 49; refine (t49 _ _).mono ?_; rintro e w' ⟨rfl, rfl⟩; rw [hN])
    go_ret
    exact ⟨rfl, rfl⟩
theorem t71 (a : Int) (w : World) : Calls Try.prog 71 #[.int .u64 a] w fun e w' => e = .returned (.bool false) ∧ w' = w := by
  go_enter Try.func71, Try.ntmps71
  go_wp2
  go_ret
  exact ⟨by simp, rfl⟩
theorem t57u (a b : Nat) (w : World) : Calls Try.prog 57 #[.int .u64 a, .int .u64 b] w fun e w' => e = .returned (.int .i64 (cmpN a b)) ∧ w' = w := by
  go_enter Try.func57, Try.ntmps57
  go_wp2_with (go_at_call 71; (with_reducible refine (t71 _ _).mono ?_); rintro e w' ⟨rfl, hw⟩; subst w')
  all_goals (go_ret; go_tidy; refine ⟨?_, rfl⟩; unfold cmpN)
  · rw [if_pos (by omega)]; rfl
  · rw [if_neg (by omega), if_pos (by omega)]; rfl
  · rw [if_neg (by omega), if_neg (by omega)]; rfl
/-- A rank in memory. -/
structure RkAt (w : World) (g : Nat) (p : Plt) : Prop where
  k0 : w.cell? ⟨g, 0, none⟩ = some (.int .u64 (fall p.p))
  k1 : w.cell? ⟨g, 1, none⟩ = some (.int .u64 (key p.r))
  k2 : w.cell? ⟨g, 2, none⟩ = some (.int .u64 (key p.s))
  k3 : w.cell? ⟨g, 3, none⟩ = some (.int .u64 (key p.b))
  k4 : w.cell? ⟨g, 4, none⟩ = some (.int .u64 (key p.t))
def pC (p : Plt) : Array Value := #[.float .f64 p.r, .float .f64 p.s, .float .f64 p.p, .float .f64 p.b, .float .f64 p.t]
def rC (p : Plt) : Array Value := #[.int .u64 (fall p.p), .int .u64 (key p.r), .int .u64 (key p.s), .int .u64 (key p.b), .int .u64 (key p.t)]
end Go.Proofs.Ytijfmaepoamkgab

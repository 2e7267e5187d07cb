/- Near. -/
import Derived.Test.YtkjpmmcfbaffoaaX
namespace Go.Proofs.Ytkjpmmcfbaffoaa
open Go.ChangeShapes Go.WideShapes Go.ChangeAt Go.RowKit Go.Fl Ieee
attribute [local go_sem] run_store_float run_store_complex call35 call34 run_neg fold_eq fold_ne fold_lt fold_gt abs_eq

/-- The greatest of the next m numbers, from k on, and of one; one that is no number ends it. -/
def nearG (D : Nat → Option Nat) : Nat → Nat → Option Nat → Option Nat
  | 0, _, most => most
  | m + 1, k, most => if nanF (D k) then D k else nearG D m (k + 1) (if gtF (D k) most then D k else most)
/-- How far two numbers are apart. -/
def offF (a b : Nat × Nat) : Option Nat := absF (bin .sub (ab a.1) (ab b.1)) (bin .sub (ab a.2) (ab b.2))
theorem nearG_step {D : Nat → Option Nat} {n k : Nat} {m r : Option Nat} (hk : k < n) (hr : r = D k) : nearG D (n - k) k m = if nanF r then r else nearG D (n - (k + 1)) (k + 1) (if gtF r m then r else m) := by
  rw [show n - k = (n - (k + 1)) + 1 by omega, nearG, hr]
theorem t8e (pa pb : Option Addr) (na ca cb : Nat) (w : World) : Calls Try.prog 8 #[.slice pa na ca, .slice pb 0 cb] w (FR w (ab 0)) := by
  go_enter Try.func8, Try.ntmps8
  go_wp2
  all_goals
    go_loopw [5, 13] (fun vm vi wr => vm = .float .f64 0 ∧ vi = .int .i64 0 ∧ wr = w) (fun _ _ _ => 0)
    case atStart => exact ⟨rfl, rfl, rfl⟩
    case round =>
      obtain ⟨rfl, rfl, rfl⟩ := hrel
      go_wp2
      go_ret
      exact FR.mk0 rfl
set_option maxHeartbeats 1000000 in
theorem t8 (ga oa gb ob n ca cb : Nat) (f g : Nat → Nat × Nat) (w : World) (ha : n ≤ 100000) (hf : RD w ga oa n f) (hg : RD w gb ob n g) :
    Calls Try.prog 8 #[.slice (some ⟨ga, oa, none⟩) n ca, .slice (some ⟨gb, ob, none⟩) n cb] w (FR w (nearG (fun i => offF (f i) (g i)) n 0 (ab 0))) := by
  have HF : Hid (RD w ga oa n f) := hf
  have HG : Hid (RD w gb ob n g) := hg
  clear hf hg
  go_enter Try.func8, Try.ntmps8
  go_wp2
  go_loopw [5, 6, 7, 13] (fun vm _ _ vi wr => ∃ k m j : Nat, k ≤ n ∧ vm = .float .f64 m ∧ vi = .int .i64 k ∧ wr = w.drewN j ∧ Hid (nearG (fun i => offF (f i) (g i)) (n - k) k (ab m) = nearG (fun i => offF (f i) (g i)) n 0 (ab 0))) (fun _ _ _ vi _ => n - (intOf vi).toNat)
  case atStart => exact ⟨0, 0, 0, by omega, rfl, rfl, rfl, rfl⟩
  case round =>
    obtain ⟨k, m, j, hk, rfl, rfl, rfl, HK⟩ := hrel
    by_cases hlt : k < n
    · obtain ⟨x, y, HX, hx⟩ : ∃ x y, Hid (f k = (x, y)) ∧ w.cell? ⟨ga, oa + k, none⟩ = some (.complex .f64 x y) := ⟨_, _, rfl, HF.out k hlt⟩
      obtain ⟨x', y', HX', hx'⟩ : ∃ x y, Hid (g k = (x, y)) ∧ w.cell? ⟨gb, ob + k, none⟩ = some (.complex .f64 x y) := ⟨_, _, rfl, HG.out k hlt⟩
      have kz : (k : Int) < (n : Int) := by omega
      have k0 : (0 : Int) ≤ (k : Int) := by omega
      go_wp2_with fail
      go_region_with (first
        | ((with_reducible refine upon_csub ?_); intro r5 s5 n5 hr5 hs5)
        | (go_at_call 18; (with_reducible refine (t18 _ _ _).mono ?_); rintro e w' ⟨r, nn, rfl, rfl, hr⟩))
      go_wp2_with (go_at_call 19; (with_reducible refine (t19 _ _).mono ?_); rintro e w' ⟨rfl, rfl⟩)
      all_goals
        have hK := HK.out
        rw [nearG_step hlt (r := ab r) (by rw [hr.out, hr5.out, hs5.out, HX.out, HX'.out]; rfl)] at hK
      all_goals first
        | (rename_i hn hg; refine ⟨⟨k + 1, _, _, by omega, rfl, by go_num, rfl, ?_⟩, by simp [intOf]; omega⟩; show _ = _; rw [← hK]; simp [nanF, hn, hg]; done)
        | (rename_i hn; go_ret; refine FR.mkN ?_; rw [← hK]; exact (if_pos hn).symm)
    · obtain rfl : n = k := by omega
      go_wp2
      go_ret
      rw [Nat.sub_self] at HK
      exact FR.mkN HK.out
end Go.Proofs.Ytkjpmmcfbaffoaa

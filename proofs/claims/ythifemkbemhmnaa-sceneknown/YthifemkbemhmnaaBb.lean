/- The first thing that is wrong. -/
import Derived.Test.YthifemkbemhmnaaBa
namespace Go.Proofs.Ythifemkbemhmnaa
open Go.ChangeShapes Go.WideShapes Go.ChangeAt Go.RowKit Go.Fl Ieee
attribute [local go_sem] run_store_float run_store_complex call69 call32 run_neg fold_eq fold_ne fold_lt fold_gt abs_eq

theorem run_store_fn {P : Program} (w : World) (a : Addr) (m : Mode) (fn : Fn) (x y : Array Value) : (store a (.func fn x y) m).run P w = stored P w a (.func fn x y) m := run_store P w a _ m rfl
attribute [local go_sem] run_store_fn
/-- What a call leaves that answers a code. -/
def EU (z : Int) (w : World) (e : Ending) (w' : World) : Prop := e = .returned (.int .i64 z) ∧ Hid (Up w w')
set_option maxRecDepth 20000 in
set_option maxHeartbeats 2000000 in
/-- firstWrong: n questions, of which k are answered no. -/
theorem t44 (Q n c k : Nat) (G : Nat → FuncId) (A B : Nat → Array Value) (code : Nat → Int) (b : Nat → Bool) (z : Int) (w : World) (hn : n ≤ 100)
    (hQ : ∀ i, i < n → w.cell? ⟨Q, i * 2, none⟩ = some (.func (.func (G i)) (A i) (B i)) ∧ w.cell? ⟨Q, i * 2 + 1, none⟩ = some (.int .i64 (code i)))
    (eg : ∀ i, i < n → ∀ args w, (callFunc (G i) args).run Try.prog w = .ok (.enter (G i) args) w)
    (hat : ∀ i, i < n → i ≤ k → ∀ w', Up w w' → Calls Try.prog (G i) (A i ++ B i) w' (BR (b i) w'))
    (hk : ∀ i, i < k → b i = false) (hz : k < n ∧ b k = true ∧ code k = z ∨ k = n ∧ z = 0) :
    Calls Try.prog 44 #[.slice (some ⟨Q, 0, none⟩) n c] w (EU z w) := by
  have HQ : Hid (∀ i, i < n → w.cell? ⟨Q, i * 2, none⟩ = some (.func (.func (G i)) (A i) (B i)) ∧ w.cell? ⟨Q, i * 2 + 1, none⟩ = some (.int .i64 (code i))) := hQ
  have HE : Hid (∀ i, i < n → ∀ args w, (callFunc (G i) args).run Try.prog w = .ok (.enter (G i) args) w) := eg
  have HA : Hid (∀ i, i < n → i ≤ k → ∀ w', Up w w' → Calls Try.prog (G i) (A i ++ B i) w' (BR (b i) w')) := hat
  have HK : Hid (∀ i, i < k → b i = false) := hk
  have HZ : Hid (k < n ∧ b k = true ∧ code k = z ∨ k = n ∧ z = 0) := hz
  have hkn : k ≤ n := by omega
  clear hQ eg hat hk hz
  go_enter Try.func44, Try.ntmps44
  go_wp2
  go_loopw [4, 7] (fun _ vi wr => ∃ i : Nat, i ≤ k ∧ vi = .int .i64 i ∧ Hid (Up w wr)) (fun _ vi _ => n - (intOf vi).toNat)
  case atStart => exact ⟨0, by omega, rfl, Up.refl _⟩
  case round =>
    obtain ⟨i, hi, rfl, HU⟩ := hrel
    by_cases hlt : i < n
    · have z1 : (i : Int) < (n : Int) := by omega
      have z2 : (0 : Int) ≤ (i : Int) := by omega
      obtain ⟨g, hg⟩ : ∃ g, G i = g := ⟨_, rfl⟩
      obtain ⟨x, hx⟩ : ∃ x, A i = x := ⟨_, rfl⟩
      obtain ⟨y, hy⟩ : ∃ y, B i = y := ⟨_, rfl⟩
      have c1 := cell_up (HQ.out i hlt).1 HU.out
      have c2 := cell_up (HQ.out i hlt).2 HU.out
      have e1 := HE.out i hlt
      rw [hg, hx, hy] at c1
      rw [hg] at e1
      have HC : Hid (Calls Try.prog g (x ++ y) (wr.alloc (.cells #[.func (.func g) x y, .int .i64 (code i)] 86)) (BR (b i) (wr.alloc (.cells #[.func (.func g) x y, .int .i64 (code i)] 86)))) := by
        have := HA.out i hlt hi _ (HU.out.trans (Up.alloc wr (.cells #[.func (.func g) x y, .int .i64 (code i)] 86)))
        rw [hg, hx, hy] at this; exact this
      obtain ⟨bi, hbi⟩ : ∃ bi, b i = bi := ⟨_, rfl⟩
      rw [hbi] at HC
      obtain ⟨ci, hci⟩ : ∃ ci, code i = ci := ⟨_, rfl⟩
      rw [hci] at HC c2
      have HCi : Hid (code i = ci) := hci
      have HBi : Hid (b i = bi) := hbi
      clear hci hbi hg hx hy
      by_cases hik : i < k
      · obtain rfl : bi = false := by rw [← HBi.out]; exact HK.out i hik
        go_wp2_with fail
        (with_reducible refine HC.out.mono ?_)
        rintro e w' ⟨rfl, rfl⟩
        go_wp2
        go_roundw
        case rel => exact ⟨i + 1, by omega, by go_num, HU.out.trans (Up.alloc _ _)⟩
        case measure => simp [intOf]; omega
      · obtain rfl : i = k := by omega
        obtain ⟨rfl, rfl⟩ : bi = true ∧ ci = z := by
          rcases HZ.out with ⟨_, q, r⟩ | ⟨q, r⟩
          · exact ⟨HBi.out ▸ q, HCi.out ▸ r⟩
          · omega
        go_wp2_with fail
        (with_reducible refine HC.out.mono ?_)
        rintro e w' ⟨rfl, rfl⟩
        go_wp2
        go_ret
        exact ⟨rfl, HU.out.trans (Up.alloc _ _)⟩
    · obtain rfl : i = n := by omega
      obtain rfl : z = 0 := by
        rcases HZ.out with ⟨q, _⟩ | ⟨_, r⟩
        · omega
        · exact r
      go_wp2
      go_ret
      exact ⟨rfl, HU⟩
end Go.Proofs.Ythifemkbemhmnaa

/- Within of any list; the document's; a square; what the statements ask first. -/
import Derived.Test.YtlgejebgkkmacaaPk
import Derived.Test.YtlgejebgkkmacaaPi
import Derived.Test.YtlgejebgkkmacaaPg
namespace Go.Proofs.Ytlgejebgkkmacaa
open Go.ChangeShapes Go.WideShapes Go.ChangeAt Go.RowKit Go.Fl Ieee
attribute [local go_sem] run_store_float run_store_complex call39 call50 run_neg fold_eq fold_ne fold_lt fold_gt abs_eq

/-- A list of points. -/
def LV (w : World) (p : Option Addr) (n : Nat) (f : Nat → Nat × Nat) : Prop := 0 < n → ∃ b o, p = some ⟨b, o, none⟩ ∧ PV w b o n f
theorem LV.up {w w' : World} {p : Option Addr} {n : Nat} {f : Nat → Nat × Nat} (h : LV w p n f) (hu : Up w w') : LV w' p n f := fun hn => by
  obtain ⟨b, o, h1, h2⟩ := h hn
  exact ⟨b, o, h1, h2.up hu⟩
theorem t22few (p : Option Addr) (n cap x y : Nat) (w : World) (h : n < 3) : Calls Try.prog 22 #[.slice p n cap, .agg #[.float .f64 x, .float .f64 y]] w (BU w false) := by
  have hz : (n : Int) < 3 := by omega
  go_enter Try.func22, Try.ntmps22
  go_wp2
  go_ret
  exact ⟨rfl, Up.alloc _ _⟩
theorem t22many (p : Option Addr) (n cap x y : Nat) (w : World) (h : 64 < n) : Calls Try.prog 22 #[.slice p n cap, .agg #[.float .f64 x, .float .f64 y]] w (BU w false) := by
  have hz : (64 : Int) < n := by omega
  go_enter Try.func22, Try.ntmps22
  go_wp2
  go_ret
  exact ⟨rfl, Up.alloc _ _⟩
theorem t22 (p : Option Addr) (n cap x y : Nat) (f : Nat → Nat × Nat) (w : World) (HP : Hid (LV w p n f)) : Calls Try.prog 22 #[.slice p n cap, .agg #[.float .f64 x, .float .f64 y]] w (BU w (winF f n (x, y))) := by
  unfold winF
  by_cases h1 : n < 3
  · rw [if_pos (Or.inl h1)]; exact t22few p n cap x y w h1
  by_cases h2 : 64 < n
  · rw [if_pos (Or.inr h2)]; exact t22many p n cap x y w h2
  rw [if_neg (by omega)]
  obtain ⟨b, o, rfl, h⟩ := HP.out (by omega)
  exact t22ok b o n cap x y f w (by omega) (by omega) h
end Go.Proofs.Ytlgejebgkkmacaa

/- Tables: how many rows and gates, and what may be wrong with one. -/
import Derived.Test.YtgalgnopjcpocaaPb
import Derived.Test.YtgalgnopjcpocaaMa
namespace Go.Proofs.Ytgalgnopjcpocaa
open Go.ChangeShapes Go.WideShapes Go.ChangeAt Go.RowKit Go.Fl Ieee
attribute [local go_sem] run_store_float run_store_complex call20 call33 run_neg fold_eq fold_ne fold_lt fold_gt abs_eq

/-- What a call leaves that answers yes or no, a number, and turns nothing. -/
def BR (b : Bool) (w : World) (e : Ending) (w' : World) : Prop := e = .returned (.bool b) ∧ w' = w
def IR (z : Int) (w : World) (e : Ending) (w' : World) : Prop := e = .returned (.int .i64 z) ∧ w' = w
/-- A table's value: n rows, of which the first has m numbers. -/
def TV (w : World) (v : Value) (n m : Nat) : Prop := ∃ p c, v = .slice p n c ∧ (n = 0 → m = 0) ∧ (0 < n → ∃ R q c0, p = some ⟨R, 0, none⟩ ∧ w.cell? ⟨R, 0, none⟩ = some (.slice q m c0))
theorem TV.up {w w' : World} {v : Value} {n m : Nat} (h : TV w v n m) (hu : Up w w') : TV w' v n m := by
  obtain ⟨p, c, h1, h2, h3⟩ := h
  refine ⟨p, c, h1, h2, fun hp => ?_⟩
  obtain ⟨R, q, c0, k1, k2⟩ := h3 hp
  exact ⟨R, q, c0, k1, cell_up k2 hu⟩
theorem TV.nil (w : World) (p : Option Addr) (c : Nat) : TV w (.slice p 0 c) 0 0 := ⟨p, c, rfl, fun _ => rfl, fun h => by omega⟩
/-- The rows of a table as they stand in memory: where each begins, how many it has, its room. -/
def TB (w : World) (R n : Nat) (P : Nat → Option Addr) (L C : Nat → Nat) : Prop := ∀ i, i < n → w.cell? ⟨R, i, none⟩ = some (.slice (P i) (L i) (C i))
theorem TB.up {w w' : World} {R n : Nat} {P : Nat → Option Addr} {L C : Nat → Nat} (h : TB w R n P L C) (hu : Up w w') : TB w' R n P L C := fun i hi => cell_up (h i hi) hu
theorem TB.tv {w : World} {R n c : Nat} {P : Nat → Option Addr} {L C : Nat → Nat} (h : TB w R n P L C) (hp : 0 < n) : TV w (.slice (some ⟨R, 0, none⟩) n c) n (L 0) := ⟨_, c, rfl, fun e => by omega, fun _ => ⟨R, P 0, C 0, rfl, h 0 hp⟩⟩
end Go.Proofs.Ytgalgnopjcpocaa

/- The spots that count: the walk. -/
import Derived.Test.YtflngnnoibkkoaaGreatKQc
import Derived.Test.YtflngnnoibkkoaaGreatKPg
namespace Go.Proofs.YtflngnnoibkkoaaGreat.Pk
open Go.ChangeShapes Go.WideShapes Go.ChangeAt Go.RowKit Go.Fl Go.Sort Go.Shelf Go.Lib
set_option maxRecDepth 200000
set_option maxHeartbeats 8000000
attribute [local go_sem] run_store_float run_neg fold_eq fold_ne fold_lt fold_gt abs_eq eqg57

/-- A slice of spots that can be read. -/
structure SpV (w : World) (p : Option Addr) (n cap : Nat) (d : Array Spt) : Prop where
  len : d.size = n
  cap : n ≤ cap
  few : n * 24 ≤ 140737488355328
  wf : ∀ i, i < n → Wf d[i]!
  fit : ∀ i, i < n → (d[i]!).2.2 < 18446744073709551616
  rd : 0 < n → ∃ b o, p = some ⟨b, o, none⟩ ∧ ∀ i, i < n → w.cell? ⟨b, o + i * 3, none⟩ = some (.int .i64 (d[i]!).1) ∧ w.cell? ⟨b, o + i * 3 + 1, none⟩ = some (.int .i64 (d[i]!).2.1) ∧ w.cell? ⟨b, o + i * 3 + 2, none⟩ = some (.float .f64 (d[i]!).2.2)
theorem SpV.up {w w' : World} {p : Option Addr} {n cap : Nat} {d : Array Spt} (h : SpV w p n cap d) (hu : Up w w') : SpV w' p n cap d :=
  ⟨h.len, h.cap, h.few, h.wf, h.fit, fun hp => by
    obtain ⟨b, o, e, r⟩ := h.rd hp
    exact ⟨b, o, e, fun i hi => ⟨cell_up (r i hi).1 hu, cell_up (r i hi).2.1 hu, cell_up (r i hi).2.2 hu⟩⟩⟩
/-- Does a spot count? -/
def kpB (bins : Int) (s : Spt) : Bool := decide (0 ≤ s.1) && decide (s.1 < bins) && decide (0 ≤ s.2.1)
def keptN (d : Array Spt) (bins : Int) : Nat → List Spt
  | 0 => []
  | k + 1 => keptN d bins k ++ (if kpB bins d[k]! = true then [d[k]!] else [])
theorem keptN_len (d : Array Spt) (bins : Int) (k : Nat) : (keptN d bins k).length ≤ k := by
  induction k with
  | zero => exact Nat.le_refl _
  | succ k ih => rw [keptN, List.length_append]; split <;> simp <;> omega
theorem keptN_mem {d : Array Spt} {bins : Int} {k : Nat} {s : Spt} (h : s ∈ keptN d bins k) : kpB bins s = true ∧ ∃ i, i < k ∧ d[i]! = s := by
  induction k with
  | zero => cases h
  | succ k ih =>
    rw [keptN] at h
    rcases List.mem_append.1 h with h | h
    · obtain ⟨h1, i, h2, h3⟩ := ih h
      exact ⟨h1, i, by omega, h3⟩
    · by_cases q : kpB bins d[k]! = true
      · rw [if_pos q] at h
        simp at h
        exact ⟨by rw [h]; exact q, k, by omega, h.symm⟩
      · rw [if_neg q] at h; cases h
/-- None at all. -/
theorem t74z (fv : Value) (w : World) : Calls Tryz.prog 217 #[.slice none 0 0, .int .i64 0, .int .i64 0, fv] w fun e w' => e = .returned (.tuple #[]) ∧ w' = w := by
  go_enter Tryz.func217, Tryz.ntmps217
  go_wp2
  go_loopw [8, 9] (fun vi _ wr => vi = .int .i64 1 ∧ wr = w) (fun _ _ _ => 0)
  case atStart => exact ⟨rfl, rfl⟩
  case round =>
    obtain ⟨rfl, hw⟩ := hrel
    subst hw
    go_wp2
    go_end0
    exact ⟨rfl, rfl⟩
theorem t70z (fv : Value) (w : World) : Calls Tryz.prog 198 #[.slice none 0 0, .int .i64 0, fv] w fun e w' => e = .returned (.tuple #[]) ∧ w' = w := by
  go_enter Tryz.func198, Tryz.ntmps198
  go_wp2
  go_loopw [7, 8] (fun va vb wr => va = .int .i64 0 ∧ vb = .int .i64 20 ∧ wr = w) (fun _ _ _ => 0)
  case atStart => exact ⟨rfl, rfl, rfl⟩
  case round =>
    obtain ⟨rfl, rfl, hw⟩ := hrel
    subst hw
    go_wp2_with (first
      | (go_at_call 217; (with_reducible refine (t74z _ _).mono ?_); rintro e w1 ⟨rfl, hw⟩; subst w1))
    rename World => wr
    go_loopw [6, 7, 8, 9] (fun vs _ _ _ wq => vs = .int .i64 20 ∧ wq = wr) (fun _ _ _ _ _ => 0)
    case atStart => exact ⟨rfl, rfl⟩
    case round =>
      obtain ⟨rfl, hw⟩ := hrel
      subst hw
      go_wp2
      go_end0
      exact ⟨rfl, rfl⟩
theorem t57z (fv : Value) (w : World) : Calls Tryz.prog 175 #[.slice none 0 0, fv] w fun e w' => e = .returned (.tuple #[]) ∧ w' = w := by
  go_enter Tryz.func175, Tryz.ntmps175
  go_wp2_with (first
    | (go_at_call 198; (with_reducible refine (t70z _ _).mono ?_); rintro e w1 ⟨rfl, hw⟩; subst w1))
  go_end0
  exact ⟨rfl, rfl⟩
theorem t59z (fv : Value) (w : World) : Calls Tryz.prog 177 #[.slice none 0 0, fv] w fun e w' => e = .returned (.slice none 0 0) ∧ w' = w := by
  go_enter Tryz.func177, Tryz.ntmps177
  go_wp2
  go_ret
  exact ⟨rfl, rfl⟩
end Go.Proofs.YtflngnnoibkkoaaGreat.Pk

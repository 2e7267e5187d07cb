/- Whether a beat may be: the program's Check and the reference's. -/
import Derived.Test.YtgalgnopjcpocaaLa
import Derived.Test.YtgalgnopjcpocaaFw
namespace Go.Proofs.Ytgalgnopjcpocaa
open Go.ChangeShapes Go.WideShapes Go.ChangeAt Go.RowKit Go.Fl Ieee
attribute [local go_sem] run_store_float call20 call33 run_neg fold_eq fold_ne fold_lt fold_gt abs_eq

/-- Finite and above 0. -/
def goodF (x : Option Nat) : Bool := fin x && gtF x (ab 0)
/-- Check's answer. -/
def checkF (c v r : Option Nat) (E R : Int) : Int :=
  if goodF c = true ∧ goodF v = true ∧ goodF r = true ∧ 1 ≤ E ∧ E ≤ 16384 ∧ 1 ≤ R ∧ R ≤ 256 then (if E * R > 262144 then 3 else 0) else 80
theorem zero_fnt : Fnt 0 := by unfold Fnt; decide
theorem leq_good {x : Nat} (h : fin (ab x) = true) : (ltF (ab x) (ab 0) || eqF (ab x) (ab 0)) = !gtF (ab x) (ab 0) := by
  have hx := fin_iff h
  rw [ltF_val hx zero_fnt, eqF_val hx zero_fnt, gtF_val hx zero_fnt, val0]
  rcases (Rat.le_total : val x ≤ 0 ∨ 0 ≤ val x) with h | h
  · by_cases h0 : val x = 0
    · simp [h0]
    · have h1 : val x < 0 := Rat.lt_of_le_of_ne h h0
      have h2 : ¬ 0 < val x := by grind
      simp [h1, h2]
  · by_cases h0 : val x = 0
    · simp [h0]
    · have h1 : 0 < val x := Rat.lt_of_le_of_ne h (fun e => h0 e.symm)
      have h2 : ¬ val x < 0 := by grind
      simp [h1, h2, h0]
theorem bad_leq {x : Nat} (h : fin (ab x) = true) (h2 : (ltF (ab x) (ab 0) || eqF (ab x) (ab 0)) = true) : goodF (ab x) = false := by
  rw [leq_good h] at h2
  simp [goodF]; intro _; simpa using h2
theorem good_leq {x : Nat} (h : fin (ab x) = true) (h2 : (ltF (ab x) (ab 0) || eqF (ab x) (ab 0)) = false) : goodF (ab x) = true := by
  rw [leq_good h] at h2
  simp [goodF, h]; simpa using h2
theorem bad_fin {x : Nat} (h : fin (ab x) = false) : goodF (ab x) = false := by simp [goodF, h]
theorem bad_gt {x : Nat} (h2 : gtF (ab x) (ab 0) = false) : goodF (ab x) = false := by simp [goodF, h2]
theorem good_gt {x : Nat} (h : fin (ab x) = true) (h2 : gtF (ab x) (ab 0) = true) : goodF (ab x) = true := by simp [goodF, h, h2]
theorem check80 {c v r : Option Nat} {E R : Int} (h : goodF c = false ∨ goodF v = false ∨ goodF r = false ∨ E < 1 ∨ 16384 < E ∨ R < 1 ∨ 256 < R) : checkF c v r E R = 80 := by
  unfold checkF
  rw [if_neg]
  rintro ⟨a1, a2, a3, a4, a5, a6, a7⟩
  rcases h with h | h | h | h | h | h | h
  · rw [a1] at h; cases h
  · rw [a2] at h; cases h
  · rw [a3] at h; cases h
  all_goals omega
theorem check_in {c v r : Option Nat} {E R : Int} (h1 : goodF c = true) (h2 : goodF v = true) (h3 : goodF r = true) (h4 : 1 ≤ E) (h5 : E ≤ 16384) (h6 : 1 ≤ R) (h7 : R ≤ 256) : checkF c v r E R = if E * R > 262144 then 3 else 0 := by
  unfold checkF; rw [if_pos ⟨h1, h2, h3, h4, h5, h6, h7⟩]

set_option maxRecDepth 20000 in
theorem run_index3 (w : World) (x y z : Nat) (c : Nat) (hc : c < 3) : (Instr.index 107 (.agg #[.float .f64 x, .float .f64 y, .float .f64 z]) (.int .i64 c)).run Try.prog w = .ok (.float .f64 (if c = 0 then x else if c = 1 then y else z)) w := by
  rcases (show c = 0 ∨ c = 1 ∨ c = 2 by omega) with rfl | rfl | rfl <;> kernel_rfl
theorem wpList_index3 {ops : Array Oper} {rest : List Oper} {o : Oper} {a : Act} {Q : Exit → Act → World → Prop} {w : World} {x y z : Nat} (c v : Nat) (hv : (if c = 0 then x else if c = 1 then y else z) = v) (hgd : o.guard = none) (s i : Operand)
    (hop : o.op = Op.index 107 s i) (hs : a.eval s = .agg #[.float .f64 x, .float .f64 y, .float .f64 z]) (hx : a.eval i = .int .i64 c) (hc : c < 3)
    (hK : wpList Try.prog ops Q rest (a.put o.dst (.float .f64 v)) w) : wpList Try.prog ops Q (o :: rest) a w := by
  refine wpList_plain hgd fun K hK' => ?_
  unfold Oper.wp
  simp only [execOp, hop, hs, hx]
  have e := run_index3 w x y z c hc
  rw [hv] at e
  simp [e, Result.andThen]
  exact hK' _ _ hK
set_option maxRecDepth 20000 in
theorem run_index2 (w : World) (x y z t : Int) (c : Nat) (hc : c < 2) : (Instr.index 109 (.agg #[.int .i64 x, .int .i64 y, .int .i64 z, .int .i64 t]) (.int .i64 c)).run Try.prog w = .ok (.agg (if c = 0 then #[.int .i64 x, .int .i64 y] else #[.int .i64 z, .int .i64 t])) w := by
  rcases (show c = 0 ∨ c = 1 by omega) with rfl | rfl <;> kernel_rfl
theorem wpList_index2 {ops : Array Oper} {rest : List Oper} {o : Oper} {a : Act} {Q : Exit → Act → World → Prop} {w : World} {x y z t : Int} (c : Nat) (v : Array Value) (hv : (if c = 0 then #[Value.int .i64 x, .int .i64 y] else #[.int .i64 z, .int .i64 t]) = v) (hgd : o.guard = none) (s i : Operand)
    (hop : o.op = Op.index 109 s i) (hs : a.eval s = .agg #[.int .i64 x, .int .i64 y, .int .i64 z, .int .i64 t]) (hx : a.eval i = .int .i64 c) (hc : c < 2)
    (hK : wpList Try.prog ops Q rest (a.put o.dst (.agg v)) w) : wpList Try.prog ops Q (o :: rest) a w := by
  refine wpList_plain hgd fun K hK' => ?_
  unfold Oper.wp
  simp only [execOp, hop, hs, hx]
  have e := run_index2 w x y z t c hc
  rw [hv] at e
  simp [e, Result.andThen]
  exact hK' _ _ hK
/-- A beat's cells, as they lie in memory. -/
structure BC (w : World) (b c v r : Nat) (E R : Int) : Prop where
  c0 : w.cell? ⟨b, 0, none⟩ = some (.float .f64 c)
  c1 : w.cell? ⟨b, 1, none⟩ = some (.float .f64 v)
  c2 : w.cell? ⟨b, 2, none⟩ = some (.float .f64 r)
  c3 : w.cell? ⟨b, 3, none⟩ = some (.int .i64 E)
  c4 : w.cell? ⟨b, 4, none⟩ = some (.int .i64 R)
theorem up_cell {w w' : World} (h : Up w w') {b o : Nat} {v : Value} (hc : w.cell? ⟨b, o, none⟩ = some v) : w'.cell? ⟨b, o, none⟩ = some v := by
  have hb : b < w.heap.size := by
    unfold World.cell? at hc
    rcases Nat.lt_or_ge b w.heap.size with h | h
    · exact h
    · rw [Array.getElem?_eq_none h] at hc; simp at hc
  rw [← hc]
  unfold World.cell?
  rw [h.block _ hb]
theorem BC.up {w w' : World} {b c v r : Nat} {E R : Int} (h : BC w b c v r E R) (hu : Up w w') : BC w' b c v r E R :=
  ⟨up_cell hu h.c0, up_cell hu h.c1, up_cell hu h.c2, up_cell hu h.c3, up_cell hu h.c4⟩
theorem BC.new (w : World) (c v r : Nat) (E R : Int) : BC (w.alloc (.cells #[.float .f64 c, .float .f64 v, .float .f64 r, .int .i64 E, .int .i64 R] 63)) w.heap.size c v r E R := by
  have e := heap_alloc_last w (.cells #[.float .f64 c, .float .f64 v, .float .f64 r, .int .i64 E, .int .i64 R] 63)
  constructor <;> (unfold World.cell?; simp only [e]; rfl)
end Go.Proofs.Ytgalgnopjcpocaa

/- Cell, the program's and the reference's. -/
import Derived.Test.YtijfmaepoamkgabLb
import Derived.Test.YtijfmaepoamkgabLe
import Derived.BigQuiet
namespace Go.Proofs.Ytijfmaepoamkgab.Gt
open Go.ChangeShapes Go.WideShapes Go.ChangeAt Go.RowKit Go.Fl Ieee
attribute [local go_sem] run_store_float call18 call17 run_neg fold_eq fold_ne fold_lt fold_gt abs_eq

theorem run_fl_some {P : Program} (op : BinOp) (t : TypeId) {x y r : Nat} (w : World) (h : bin op (ab x) (ab y) = some r) : (binOp op t (.float .f64 x) (.float .f64 y)).run P w = .ok (.float .f64 r) w :=
  run_float_arith w op t .f64 x y r (by rw [bits_ab]; exact h)
structure CheckOk (c v r : Nat) (E R : Int) : Prop where
  c : goodF (ab c) = true
  v : goodF (ab v) = true
  r : goodF (ab r) = true
  e1 : 1 ≤ E
  e2 : E ≤ 16384
  r1 : 1 ≤ R
  r2 : R ≤ 256
theorem check0 {c v r : Nat} {E R : Int} (h : checkF (ab c) (ab v) (ab r) E R = 0) : CheckOk c v r E R := by
  unfold checkF at h
  split at h
  · rename_i k; exact ⟨k.1, k.2.1, k.2.2.1, k.2.2.2.1, k.2.2.2.2.1, k.2.2.2.2.2.1, k.2.2.2.2.2.2⟩
  · cases h
theorem good_val {x : Nat} (h : goodF (ab x) = true) : Fnt x ∧ 0 < val x := by
  unfold goodF at h
  rw [Bool.and_eq_true] at h
  have hx := fin_iff h.1
  have := h.2
  rw [gtF_val hx zero_fnt, val0] at this
  exact ⟨hx, by simpa using this⟩
/-- The place among all cells, as a float. -/
def placeF (c m : Option Nat) : Option Nat := (bin .quo m c).map floor
def bigF (q : Option Nat) : Bool := gtF q (ab 4832362400168542208) || eqF q (ab 4832362400168542208)
def intF (q : Option Nat) : Int := (floatToIntVal .f64 (q.getD 0) .i64).getD 0
/-- What Cell answers: the cell, the turns, the error. -/
def cellF (c v r : Option Nat) (E R : Int) (m : Option Nat) : Int × Int × Int :=
  if checkF c v r E R ≠ 0 then (0, 0, checkF c v r E R) else if fin m = false then (0, 0, 6) else if ltF m (ab 0) = true then (0, 0, 2)
  else if bigF (placeF c m) = true then (0, 0, 3) else (intF (placeF c m) % E, intF (placeF c m) / E, 0)
def I3 (w : World) (p : Int × Int × Int) (e : Ending) (w' : World) : Prop := e = .returned (.tuple #[.int .i64 p.1, .int .i64 p.2.1, .int .i64 p.2.2]) ∧ Hid (Up w w')
theorem place_some {c m : Nat} (hc : goodF (ab c) = true) (hm : fin (ab m) = true) (h0 : ltF (ab m) (ab 0) = false) : ∃ r q, bin .quo (ab m) (ab c) = some r ∧ isN r = false ∧ floor r = q ∧ placeF (ab c) (ab m) = some q ∧ NN q ∧ isN q = false ∧ ab q = some q := by
  obtain ⟨fc, pc⟩ := good_val hc
  have fm := fin_iff hm
  have pm : 0 ≤ val m := by
    rw [ltF_val fm zero_fnt, val0] at h0
    simp at h0
    grind
  obtain ⟨r, r1, r2, r3⟩ := quo_nn fm fc pm pc
  obtain ⟨q1, q2⟩ := floor_nn r2 r3
  rw [← Fnt.ab fm, ← Fnt.ab fc] at r1
  exact ⟨r, _, r1, r3, rfl, by unfold placeF; rw [r1]; rfl, q1, q2, ab_some q2⟩
theorem intF_val {q : Nat} (h1 : NN q) (h2 : isN q = false) (h3 : bigF (some q) = false) : ∃ K : Nat, intF (some q) = (K : Int) ∧ floatToIntVal .f64 q .i64 = some (K : Int) ∧ K < 1125899906842624 := by
  unfold bigF at h3
  rw [← ab_some h2] at h3
  obtain ⟨f, v⟩ := nn_fnt h1 h2 h3
  obtain ⟨K, k1, _, _, k4⟩ := toInt_val f (nn_val h1) v
  refine ⟨K, ?_, k1, k4⟩
  unfold intF
  simp [k1]
theorem run_conv (q : Nat) (z : Int) (h : floatToIntVal .f64 q .i64 = some z) (w : World) : (convert 23 3 (.float .f64 q)).run Try.prog w = .ok (.int .i64 z) w :=
  run_convert_float_int w 23 3 .f64 .i64 q z (by kernel_rfl) Try.underlying3 h
theorem div_in {K : Nat} {E : Int} (hK : K < 1125899906842624) (h : 1 ≤ E) : 0 ≤ (K : Int) / E ∧ (K : Int) / E ≤ 1125899906842624 ∧ 0 ≤ (K : Int) % E ∧ (K : Int) % E < E := by
  have h1 := Int.ediv_nonneg (show (0 : Int) ≤ K by omega) (show 0 ≤ E by omega)
  have h2 := Int.ediv_le_self E (show (0 : Int) ≤ K by omega)
  exact ⟨h1, by omega, Int.emod_nonneg _ (by omega), Int.emod_lt_of_pos _ (by omega)⟩
end Go.Proofs.Ytijfmaepoamkgab.Gt

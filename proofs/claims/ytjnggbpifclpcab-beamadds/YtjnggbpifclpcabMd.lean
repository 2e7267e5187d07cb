/- BeamAdds: what the walk leans on. -/
import Derived.Test.YtjnggbpifclpcabMc
import Derived.Test.YtjnggbpifclpcabRz
namespace Go.Proofs.Ytjnggbpifclpcab
open Go.ChangeShapes Go.WideShapes Go.ChangeAt Go.RowKit Go.Fl Ieee

attribute [local go_sem] run_store_float run_store_complex call20 call19 run_neg fold_eq fold_ne fold_lt fold_gt abs_eq

theorem run_eqc {P : Program} (t : TypeId) (a b c d : Nat) (w : World) : (binOp .eql t (.complex .f64 a b) (.complex .f64 c d)).run P w = .ok (.bool (eqF (ab a) (ab c) && eqF (ab b) (ab d))) w := by
  simp [binOp, Op.complexOp, Op.Complex.cmp, Op.floatCmp, asBool, ← fold_eq]
theorem run_fl_some {P : Program} (op : BinOp) (t : TypeId) {x y r : Nat} (w : World) (h : bin op (ab x) (ab y) = some r) : (binOp op t (.float .f64 x) (.float .f64 y)).run P w = .ok (.float .f64 r) w :=
  run_float_arith w op t .f64 x y r (by rw [bits_ab]; exact h)
theorem run_cadd_some {P : Program} (t : TypeId) {a b c d u v : Nat} (w : World) (h1 : bin .add (ab a) (ab c) = some u) (h2 : bin .add (ab b) (ab d) = some v) : (binOp .add t (.complex .f64 a b) (.complex .f64 c d)).run P w = .ok (.complex .f64 u v) w := by
  have f1 : (Op.floatArith .add .f64 a c).run P w = .ok (.float .f64 u) w := run_fl_some (P := P) .add t w h1
  have f2 : (Op.floatArith .add .f64 b d).run P w = .ok (.float .f64 v) w := run_fl_some (P := P) .add t w h2
  simp [binOp, Op.complexOp, Op.Complex.arith, f1, f2]
/-- The sum of two words. -/
def sw (x y : Nat) : Nat := (bin .add (ab x) (ab y)).getD 0
theorem sw_wh {x y : Nat} {a b : Int} (hx : WH (ab x) a) (hy : WH (ab y) b) (h1 : -P53 < a + b) (h2 : a + b < P53) : bin .add (ab x) (ab y) = some (sw x y) ∧ WH (ab (sw x y)) (a + b) := by
  have h := hx.add hy h1 h2
  obtain ⟨r, e, f, v⟩ := h
  have hs : sw x y = r := by unfold sw; rw [e]; rfl
  rw [hs, e]
  exact ⟨rfl, r, Fnt.ab f, f, v⟩
abbrev oneW : Nat := 4607182418800017408
/-- The words of the tables' rows, and of the list. -/
def FA (f1 f2 : Nat → Int × Int) (i j : Nat) : Nat × Nat := if j = 0 then (wf (f1 i).1, wf (f1 i).2) else (wf (f2 i).1, wf (f2 i).2)
def FB (f2 : Nat → Int × Int) (i j : Nat) : Nat × Nat := if j = 0 then (wf (f2 i).1, wf (f2 i).2) else (oneW, 0)
def FC (f1 f2 : Nat → Int × Int) (i j : Nat) : Nat × Nat := if j = 0 then (sw (wf (f1 i).1) (wf (f2 i).1), sw (wf (f1 i).2) (wf (f2 i).2)) else (sw (wf (f2 i).1) oneW, sw (wf (f2 i).2) 0)
def DV (f3 : Nat → Int × Int) (k : Nat) : List (Nat × Nat) := (List.range k).map fun i => (wf (f3 i).1, wf (f3 i).2)
theorem DV_step (f3 : Nat → Int × Int) (k : Nat) : DV f3 (k + 1) = DV f3 k ++ [(wf (f3 k).1, wf (f3 k).2)] := by
  unfold DV
  rw [List.range_succ, List.map_append]
  rfl
theorem DV_get {f3 : Nat → Int × Int} {k i : Nat} (h : i < k) : (DV f3 k)[i]! = (wf (f3 i).1, wf (f3 i).2) := by
  unfold DV
  rw [getElem!_pos _ i (by simpa using h)]
  simp
theorem b20_rm (a : Int) : B20 (rm a) := by have := rm_bd a; unfold B20; omega
theorem b20_sum (a b : Int) : B20 (rm a + rm b) := by have := rm_bd a; have := rm_bd b; unfold B20; omega
theorem sw_rm (a b : Int) : bin .add (ab (wf a)) (ab (wf b)) = some (sw (wf a) (wf b)) ∧ WH (ab (sw (wf a) (wf b))) (rm a + rm b) := by
  have := rm_bd a
  have := rm_bd b
  exact sw_wh (wf_wh a) (wf_wh b) (by unfold P53; omega) (by unfold P53; omega)
theorem sw_one (a : Int) : bin .add (ab (wf a)) (ab oneW) = some (sw (wf a) oneW) ∧ WH (ab (sw (wf a) oneW)) (rm a + 1) := by
  have := rm_bd a
  exact sw_wh (wf_wh a) WH.one (by unfold P53; omega) (by unfold P53; omega)
theorem sw_nought (a : Int) : bin .add (ab (wf a)) (ab 0) = some (sw (wf a) 0) ∧ WH (ab (sw (wf a) 0)) (rm a + 0) := by
  have := rm_bd a
  exact sw_wh (wf_wh a) WH.zero (by unfold P53; omega) (by unfold P53; omega)
/-- Both places add up. -/
theorem place0 (f1 f2 f3 : Nat → Int × Int) {n : Nat} (hn : n < 64) : ∃ p1 q1 p2 q2 p3 q3 r s, formF (FA f1 f2) (fun j => (DV f3 (n + 1))[j]!) (n + 1) 0 = (some p1, some q1) ∧ formF (FB f2) (fun j => (DV f3 (n + 1))[j]!) (n + 1) 0 = (some p2, some q2) ∧ formF (FC f1 f2) (fun j => (DV f3 (n + 1))[j]!) (n + 1) 0 = (some p3, some q3) ∧ bin .add (ab p1) (ab p2) = some r ∧ bin .add (ab q1) (ab q2) = some s ∧ eqF (ab p3) (ab r) = true ∧ eqF (ab q3) (ab s) = true := by
  refine adds_ok (ar := fun k => rm (f1 k).1) (ai := fun k => rm (f1 k).2) (br := fun k => rm (f2 k).1) (bi := fun k => rm (f2 k).2) (yr := fun k => rm (f3 k).1) (yi := fun k => rm (f3 k).2) hn (fun k _ => ⟨⟨wf_wh _, wf_wh _⟩, b20_rm _, b20_rm _⟩) (fun k _ => ⟨⟨wf_wh _, wf_wh _⟩, b20_rm _, b20_rm _⟩) (fun k _ => ⟨⟨(sw_rm _ _).2, (sw_rm _ _).2⟩, b20_sum _ _, b20_sum _ _⟩) (fun k hk => ⟨?_, b20_rm _, b20_rm _⟩)
  show WW (ab2 (DV f3 (n + 1))[k]!) _ _
  rw [DV_get hk]
  exact ⟨wf_wh _, wf_wh _⟩
theorem place1 (f1 f2 f3 : Nat → Int × Int) {n : Nat} (hn : n < 64) : ∃ p1 q1 p2 q2 p3 q3 r s, formF (FA f1 f2) (fun j => (DV f3 (n + 1))[j]!) (n + 1) 1 = (some p1, some q1) ∧ formF (FB f2) (fun j => (DV f3 (n + 1))[j]!) (n + 1) 1 = (some p2, some q2) ∧ formF (FC f1 f2) (fun j => (DV f3 (n + 1))[j]!) (n + 1) 1 = (some p3, some q3) ∧ bin .add (ab p1) (ab p2) = some r ∧ bin .add (ab q1) (ab q2) = some s ∧ eqF (ab p3) (ab r) = true ∧ eqF (ab q3) (ab s) = true := by
  refine adds_ok (ar := fun k => rm (f2 k).1) (ai := fun k => rm (f2 k).2) (br := fun _ => 1) (bi := fun _ => 0) (yr := fun k => rm (f3 k).1) (yi := fun k => rm (f3 k).2) hn (fun k _ => ⟨⟨wf_wh _, wf_wh _⟩, b20_rm _, b20_rm _⟩) (fun k _ => ⟨⟨WH.one, WH.zero⟩, by unfold B20; omega, by unfold B20; omega⟩) (fun k _ => ⟨⟨(sw_one _).2, (sw_nought _).2⟩, by have := rm_bd (f2 k).1; unfold B20; omega, by have := rm_bd (f2 k).2; unfold B20; omega⟩) (fun k hk => ⟨?_, b20_rm _, b20_rm _⟩)
  show WW (ab2 (DV f3 (n + 1))[k]!) _ _
  rw [DV_get hk]
  exact ⟨wf_wh _, wf_wh _⟩
theorem Tab.tr {w0 w : World} {v : Value} {N : Nat} {f : Nat → Nat → Nat × Nat} {bv : Option Nat} (h : Tab w0 w v N f bv) (h1 : 1 ≤ N) : ∃ p k, v = .slice p N k ∧ TR w p N (fun _ => 2) f := by
  obtain ⟨G, g1, g2⟩ := h.row
  obtain ⟨p, k, e, hp⟩ := own_form g1
  obtain ⟨T, rfl⟩ := hp (by omega)
  subst e
  refine ⟨_, k, rfl, fun _ => ⟨T, 0, rfl, fun i hi => ⟨some ⟨G i, 0, none⟩, 2, ?_, Nat.le_refl _, fun _ => ⟨G i, 0, rfl, fun j hj => ?_⟩⟩⟩⟩
  · rw [Nat.zero_add, World.ownsRow.cellAt g1 i (by omega), List.getElem?_map, List.getElem?_range hi]
    rfl
  · have hj' : j < 2 := hj
    have : j = 0 ∨ j = 1 := by omega
    have hh := (g2 i hi).1
    rw [Nat.zero_add]
    rcases this with rfl | rfl
    · rw [cell_of_row _ _ _ _ _ _ hh]; rfl
    · rw [cell_of_row _ _ _ _ _ _ hh]; rfl
theorem list_rv {w0 w : World} {v : Value} {N : Nat} {d : List (Nat × Nat)} (h : w.ownsRow w0.heap.size 26 1 v N (d.map ce)) (hl : d.length = N) (h1 : 1 ≤ N) : ∃ p k, v = .slice p N k ∧ RowV w p N (fun j => d[j]!) := by
  obtain ⟨p, k, e, hp⟩ := own_form h
  obtain ⟨T, rfl⟩ := hp (by omega)
  subst e
  refine ⟨_, k, rfl, fun _ => ⟨T, 0, rfl, fun j hj => ?_⟩⟩
  rw [Nat.zero_add, World.ownsRow.cellAt h j (by omega), List.getElem?_map, List.getElem?_eq_getElem (by omega)]
  show Option.map ce (some d[j]) = some (ce d[j]!)
  rw [getElem!_pos d j (by omega)]
  rfl
theorem news2 (w : World) (o : Obj) (v : Value) (t : TypeId) : ∀ (j : Nat) (u : Value), [v][j]? = some u → ((w.alloc o).alloc (.cells #[v] t)).cell? ((⟨w.heap.size + 1, 0, none⟩ : Addr).add j) = some u := by
  intro j u hj
  match j, hj with
  | 0, hj => simp at hj; subst hj; exact World.cell?_alloc_at _ _ _ _ (by simp)
theorem news1 (w : World) (v : Value) (t : TypeId) : ∀ (j : Nat) (u : Value), [v][j]? = some u → (w.alloc (.cells #[v] t)).cell? ((⟨w.heap.size, 0, none⟩ : Addr).add j) = some u := by
  intro j u hj
  match j, hj with
  | 0, hj => simp at hj; subst hj; exact World.cell?_alloc_at _ _ _ _ rfl
theorem one_slice (g : Nat) : ∀ u ∈ [Value.slice (some ⟨g, 0, none⟩) 2 2], u.oneCell' = true := by
  intro u hu; simp at hu; subst hu; rfl
theorem one_cx (x : Nat × Nat) : ∀ u ∈ [ce x], u.oneCell' = true := by
  intro u hu; simp at hu; subst hu; rfl
end Go.Proofs.Ytjnggbpifclpcab

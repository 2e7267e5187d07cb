/- Units, worked out once: the maker of the closure, and the closure. -/
import Derived.Test.YtgalgnopjcpocaaT
import Derived.BigQuiet
import Derived.Laws.BitsLemmas
namespace Go.Proofs.Ytgalgnopjcpocaa
open Go.ChangeShapes Go.WideShapes Go.ChangeAt Go.RowKit Go.Fl Ieee
/-- A number is stored where some value lies. -/
theorem run_store_c {P : Program} (w : World) (a : Addr) (m : Mode) (k : FloatKind) (x y : Nat) (h : (w.cell? a).isSome = true) (hf : w.frozen? a = false) : (store a (.complex k x y) m).run P w = .ok () (w.setCell a (.complex k x y)) := by
  obtain ⟨u, hu⟩ := Option.isSome_iff_exists.1 h
  rw [run_store_complex]
  simp [stored, hu, hf]
attribute [local go_sem] run_store_float run_store_c call20 call33 run_neg fold_eq fold_ne fold_lt fold_gt abs_eq

/-- What the closure that tells units holds: N points in a row, whose whole turn has S of them. -/
def Units (w : World) (c : Array Value) (N S : Nat) (f : Nat → Nat × Nat) : Prop :=
  ∃ bp bm g, c = #[.pointer (some ⟨bp, 0, none⟩), .pointer (some ⟨bm, 0, none⟩)] ∧ w.cell? ⟨bp, 0, none⟩ = some (.slice (some ⟨g, 0, none⟩) N N) ∧ w.cell? ⟨bm, 0, none⟩ = some (.int .i64 S) ∧ RD w g 0 N f
theorem Units.up {w w' : World} {c : Array Value} {N S : Nat} {f : Nat → Nat × Nat} (h : Units w c N S f) (hu : Up w w') : Units w' c N S f := by
  obtain ⟨bp, bm, g, rfl, h1, h2, h3⟩ := h
  exact ⟨bp, bm, g, rfl, cell_up h1 hu, cell_up h2 hu, h3.up hu⟩
theorem i64_id {x : Int} (h : -9223372036854775808 ≤ x ∧ x ≤ 9223372036854775807) : IntKind.i64.wrap x = x := by rw [IntKind.wrap_i64]; omega
/-- The point at j nths, there or back. -/
def unitF (way : Int) (S j : Nat) : Option Nat × Option Nat := (unitC (way * j) S, unitS (way * j) S)
def wayOf (b : Bool) : Int := if b then 1 else -1
theorem Fill.new' {w w' : World} {n g : Nat} (F : Nat → Option Nat × Option Nat) (hg : w.heap.size = g) (h : w'.ownsRow g 53 1 (.slice (some ⟨w.heap.size, 0, none⟩) n n) n (madeCells (Value.complex .f64 0 0).cells (n * 1)).toList) (hgr : w.grownBy w' none) : Fill w w' g n F 0 := by
  subst hg; exact Fill.new F h hgr
theorem kept_up {w w1 : World} {b1 b2 g k : Nat} {u v : Value} (h : w.cell? ⟨b1, 0, none⟩ = some u ∧ w.cell? ⟨b2, 0, none⟩ = some v ∧ (w.cell? ⟨g, k, none⟩).isSome = true ∧ w.frozen? ⟨g, k, none⟩ = false) (hu : Up w w1) :
    w1.cell? ⟨b1, 0, none⟩ = some u ∧ w1.cell? ⟨b2, 0, none⟩ = some v ∧ (w1.cell? ⟨g, k, none⟩).isSome = true ∧ w1.frozen? ⟨g, k, none⟩ = false := by
  obtain ⟨h1, h2, h3, h4⟩ := h
  obtain ⟨x, hx⟩ := Option.isSome_iff_exists.1 h3
  refine ⟨cell_up h1 hu, cell_up h2 hu, by rw [cell_up hx hu]; rfl, ?_⟩
  have e : w1.heap[g]? = w.heap[g]? := hu.block g (World.block_lt_of_cell? w _ hx)
  simp only [World.frozen?, e] at h4 ⊢
  exact h4
theorem kept_set {w : World} {b1 b2 g k : Nat} {u v x : Value} (n1 : g ≠ b1) (n2 : g ≠ b2) (h : w.cell? ⟨b1, 0, none⟩ = some u ∧ w.cell? ⟨b2, 0, none⟩ = some v ∧ (w.cell? ⟨g, k, none⟩).isSome = true ∧ w.frozen? ⟨g, k, none⟩ = false) :
    (w.setCell ⟨g, k, none⟩ x).cell? ⟨b1, 0, none⟩ = some u ∧ (w.setCell ⟨g, k, none⟩ x).cell? ⟨b2, 0, none⟩ = some v ∧ ((w.setCell ⟨g, k, none⟩ x).cell? ⟨g, k, none⟩).isSome = true ∧ (w.setCell ⟨g, k, none⟩ x).frozen? ⟨g, k, none⟩ = false := by
  obtain ⟨h1, h2, h3, h4⟩ := h
  refine ⟨by rw [World.cell?_setCell_far _ _ _ _ n1]; exact h1, by rw [World.cell?_setCell_far _ _ _ _ n2]; exact h2, ?_, by simpa using h4⟩
  rw [World.cell?_setCell_same' _ _ _ h3]; rfl
end Go.Proofs.Ytgalgnopjcpocaa
/- Writing into a row of one's own, all else kept; the nth part of each number of a row. -/
namespace Go.Proofs.Ytgalgnopjcpocaa
open Go.ChangeShapes Go.WideShapes Go.ChangeAt Go.RowKit Go.Fl Ieee
attribute [local go_sem] run_store_float run_store_complex call20 call33 run_neg fold_eq fold_ne fold_lt fold_gt abs_eq

/-- But for one block nothing has turned. -/
def But (g : Nat) (w w' : World) : Prop := w.grownBy w' (some g)
theorem But.refl (g : Nat) (w : World) : But g w w := World.grownBy.refl _ _
theorem But.of_up {g : Nat} {w w' : World} (h : Up w w') : But g w w' := ⟨h.os, h.tape, h.output, h.size, fun k hk _ => h.block k hk⟩
theorem But.trans {g : Nat} {a b c : World} (h : But g a b) (k : But g b c) : But g a c := by
  obtain ⟨h1, h2, h3, h4, h5⟩ := h
  obtain ⟨k1, k2, k3, k4, k5⟩ := k
  exact ⟨k1.trans h1, k2.trans h2, k3.trans h3, Nat.le_trans h4 k4, fun j hj hn => (k5 j (Nat.lt_of_lt_of_le hj h4) hn).trans (h5 j hj hn)⟩
theorem But.cell {g : Nat} {w w' : World} {b o : Nat} {v : Value} (h : But g w w') (hb : b ≠ g) (hc : w.cell? ⟨b, o, none⟩ = some v) : w'.cell? ⟨b, o, none⟩ = some v := World.grownBy.cell h hc (by simpa using hb)
theorem But.up {g : Nat} {w0 w w' : World} (h : But g w w') (hu : Up w0 w) (hg : w0.heap.size ≤ g) : Up w0 w' := Below.grown hu h hu.size (fun k hk => by cases hk; exact hg)
theorem But.rd {g : Nat} {w w' : World} {blk off n : Nat} {f : Nat → Nat × Nat} (h : But g w w') (hb : blk ≠ g) (hR : RD w blk off n f) : RD w' blk off n f := fun j hj => h.cell hb (hR j hj)
theorem But.units {g : Nat} {w w' : World} {c : Array Value} {N S : Nat} {f : Nat → Nat × Nat} (h : But g w w') (hU : ∃ bp bm q, bp ≠ g ∧ bm ≠ g ∧ q ≠ g ∧ c = #[.pointer (some ⟨bp, 0, none⟩), .pointer (some ⟨bm, 0, none⟩)] ∧ w.cell? ⟨bp, 0, none⟩ = some (.slice (some ⟨q, 0, none⟩) N N) ∧ w.cell? ⟨bm, 0, none⟩ = some (.int .i64 S) ∧ RD w q 0 N f) :
    ∃ bp bm q, bp ≠ g ∧ bm ≠ g ∧ q ≠ g ∧ c = #[.pointer (some ⟨bp, 0, none⟩), .pointer (some ⟨bm, 0, none⟩)] ∧ w'.cell? ⟨bp, 0, none⟩ = some (.slice (some ⟨q, 0, none⟩) N N) ∧ w'.cell? ⟨bm, 0, none⟩ = some (.int .i64 S) ∧ RD w' q 0 N f := by
  obtain ⟨bp, bm, q, n1, n2, n3, rfl, h1, h2, h3⟩ := hU
  exact ⟨bp, bm, q, n1, n2, n3, rfl, h.cell n1 h1, h.cell n2 h2, h.rd n3 h3⟩
theorem CRow.len {b g n cap : Nat} {w : World} {d : List (Nat × Nat)} (h : CRow b w (.slice (some ⟨g, 0, none⟩) n cap) d) : d.length = n := by
  obtain ⟨p, cap', he, _⟩ := own_form h
  simp only [Value.slice.injEq] at he
  exact he.2.1.symm
theorem CRow.put {b g n cap : Nat} {w : World} {d : List (Nat × Nat)} (h : CRow b w (.slice (some ⟨g, 0, none⟩) n cap) d) (k r s : Nat) :
    CRow b (w.setCell ⟨g, k, none⟩ (.complex .f64 r s)) (.slice (some ⟨g, 0, none⟩) n cap) (d.set k (r, s)) ∧ But g w (w.setCell ⟨g, k, none⟩ (.complex .f64 r s)) := by
  have hl := h.len
  subst hl
  obtain ⟨s1, s2⟩ := World.ownsRow.stored h k (.complex .f64 r s)
  refine ⟨?_, s2⟩
  unfold CRow
  rw [List.length_set, List.map_set]
  exact s1
theorem CRow.frz {b g n cap : Nat} {w : World} {d : List (Nat × Nat)} (h : CRow b w (.slice (some ⟨g, 0, none⟩) n cap) d) (i : Nat) : w.frozen? ⟨g, i, none⟩ = false := by
  have hl := h.len
  subst hl
  exact World.ownsRow.frozenAt h i
theorem set_at (d : List (Nat × Nat)) (k i : Nat) (v : Nat × Nat) (hk : k < d.length) : (d.set k v)[i]! = if i = k then v else d[i]! := by
  by_cases h : i < d.length
  · rw [getElem!_pos _ i (by simpa using h), List.getElem_set, getElem!_pos d i h]
    by_cases e : k = i
    · simp [e]
    · simp [e, Ne.symm e]
  · rw [if_neg (by omega), getElem!_neg _ i (by simpa using h), getElem!_neg d i h]
/-- A number's nth part, part by part. -/
def divF (n : Nat) (p : Option Nat × Option Nat) : Option Nat × Option Nat := (bin .quo p.1 (ab (floatOfInt .f64 n)), bin .quo p.2 (ab (floatOfInt .f64 n)))
/-- What a call leaves that writes a row of one's own anew. -/
def WR (b g n cap : Nat) (L : List (Option Nat × Option Nat)) (w : World) (e : Ending) (w' : World) : Prop :=
  ∃ d, e = .returned (.tuple #[]) ∧ Hid (CRow b w' (.slice (some ⟨g, 0, none⟩) n cap) d) ∧ Hid (But g w w') ∧ Hid (d.map ab2 = L)
theorem ab2_at {d : List (Nat × Nat)} {i : Nat} (hi : i < d.length) : (d.map ab2)[i]? = some (ab2 d[i]!) := by
  rw [List.getElem?_map, List.getElem?_eq_getElem hi, getElem!_pos d i hi]; rfl
end Go.Proofs.Ytgalgnopjcpocaa
/- The halves of a row of samples. -/
namespace Go.Proofs.Ytgalgnopjcpocaa
open Go.ChangeShapes Go.WideShapes Go.ChangeAt Go.RowKit Go.Fl Ieee
theorem isSome_set {w : World} {a b : Addr} {v : Value} (h : (w.cell? b).isSome = true) : ((w.setCell a v).cell? b).isSome = true := by
  obtain ⟨u, hu⟩ := Option.isSome_iff_exists.1 h
  by_cases e : a = b
  · subst e; rw [World.cell?_setCell_same' _ _ _ h]; rfl
  · rw [World.cell?_setCell_other _ _ _ _ e, hu]; rfl
attribute [local go_sem] run_store_float run_store_c isSome_set call20 call33 run_neg fold_eq fold_ne fold_lt fold_gt abs_eq

/-- The difference of two complex numbers: part by part. -/
theorem run_csub {P : Program} (t : TypeId) (a b c d : Nat) (w : World) :
    ∃ r i n, (binOp .sub t (.complex .f64 a b) (.complex .f64 c d)).run P w = .ok (.complex .f64 r i) (w.drewN n) ∧ ab r = bin .sub (ab a) (ab c) ∧ ab i = bin .sub (ab b) (ab d) := by
  obtain ⟨r, n, e1, h1⟩ := run_fl (P := P) .sub t a c w (by simp)
  obtain ⟨i, m, e2, h2⟩ := run_fl (P := P) .sub t b d (w.drewN n) (by simp)
  have f1 : (Op.floatArith .sub .f64 a c).run P w = .ok (.float .f64 r) (w.drewN n) := e1
  have f2 : (Op.floatArith .sub .f64 b d).run P (w.drewN n) = .ok (.float .f64 i) ((w.drewN n).drewN m) := e2
  refine ⟨r, i, n + m, ?_, h1, h2⟩
  rw [World.drewN_drewN] at f2
  simp [binOp, Op.complexOp, Op.Complex.arith, f1, f2]
theorem upon_csub {P : Program} {o : Oper} {a : Act} {next : Act → World → Prop} {Q : Exit → Act → World → Prop} {t : TypeId} {x y x' y' : Nat} {w : World}
    {F : Value → World → Result Next} (hk : ∀ r i n, Hid (ab r = bin .sub (ab x) (ab x')) → Hid (ab i = bin .sub (ab y) (ab y')) → o.upon P a next Q (F (.complex .f64 r i) (w.drewN n))) :
    o.upon P a next Q (((binOp .sub t (.complex .f64 x y) (.complex .f64 x' y')).run P w).andThen F) := by
  obtain ⟨r, i, n, e, h1, h2⟩ := run_csub (P := P) t x y x' y' w
  rw [e]
  exact hk r i n h1 h2

/-- Complex numbers, all NaN being one. -/
abbrev C2 := Option Nat × Option Nat
def mulC (a b : C2) : C2 := (mulR a.1 a.2 b.1 b.2, mulI a.1 a.2 b.1 b.2)
def addC (a b : C2) : C2 := (bin .add a.1 b.1, bin .add a.2 b.2)
def subC (a b : C2) : C2 := (bin .sub a.1 b.1, bin .sub a.2 b.2)
/-- The halves of 2^m samples; U tells the unit for j and the level's m. -/
def hv (U : Nat → Nat → C2) : Nat → (Nat → C2) → Nat → C2
  | 0, F, _ => F 0
  | m + 1, F, j =>
    if j < 2 ^ m then addC (hv U m (fun i => F (2 * i)) j) (mulC (hv U m (fun i => F (2 * i + 1)) j) (U j (m + 1)))
    else subC (hv U m (fun i => F (2 * i)) (j - 2 ^ m)) (mulC (hv U m (fun i => F (2 * i + 1)) (j - 2 ^ m)) (U (j - 2 ^ m) (m + 1)))
/-- The unit for j of 2^m, out of a row of points the whole turn of which has 2^M. -/
def uAt (fu : Nat → Nat × Nat) (M : Nat) (j m : Nat) : C2 := ab2 (fu (j * (2 ^ M / 2 ^ m)))
theorem uAt_lt {M m j : Nat} (hm : m + 1 ≤ M) (hj : j < 2 ^ m) : j * (2 ^ M / 2 ^ (m + 1)) < 2 ^ M / 2 := by
  obtain ⟨k, rfl⟩ := Nat.exists_eq_add_of_le hm
  have e1 : 2 ^ (m + 1 + k) / 2 ^ (m + 1) = 2 ^ k := by
    rw [Nat.pow_add 2 (m + 1) k, Nat.mul_div_cancel_left _ (Nat.pow_pos (by omega))]
  have e2 : 2 ^ (m + 1 + k) / 2 = 2 ^ m * 2 ^ k := by
    rw [show m + 1 + k = m + k + 1 by omega, Nat.pow_succ, Nat.mul_div_cancel _ (by omega), Nat.pow_add]
  rw [e1, e2]
  exact Nat.mul_lt_mul_of_pos_right hj (Nat.pow_pos (by omega))
/-- What halves leaves: the row's stretch from off on is told anew, all else in it is as it was. -/
def HR (b g D cap off n : Nat) (G : Nat → C2) (d : List (Nat × Nat)) (w : World) (e : Ending) (w' : World) : Prop :=
  ∃ d', e = .returned (.tuple #[]) ∧ Hid (CRow b w' (.slice (some ⟨g, 0, none⟩) D cap) d') ∧ Hid (But g w w') ∧ Hid ((∀ i, i < n → ab2 d'[off + i]! = G i) ∧ ∀ i, (i < off ∨ off + n ≤ i) → d'[i]! = d[i]!)
/-- The closure of units, away from a block. -/
def UnitsAt (g : Nat) (w : World) (bp bm q N S : Nat) (f : Nat → Nat × Nat) : Prop := bp ≠ g ∧ bm ≠ g ∧ q ≠ g ∧ w.cell? ⟨bp, 0, none⟩ = some (.slice (some ⟨q, 0, none⟩) N N) ∧ w.cell? ⟨bm, 0, none⟩ = some (.int .i64 S) ∧ RD w q 0 N f
theorem UnitsAt.but {g : Nat} {w w' : World} {bp bm q N S : Nat} {f : Nat → Nat × Nat} (h : UnitsAt g w bp bm q N S f) (hb : But g w w') : UnitsAt g w' bp bm q N S f := by
  obtain ⟨n1, n2, n3, h1, h2, h3⟩ := h
  exact ⟨n1, n2, n3, hb.cell n1 h1, hb.cell n2 h2, hb.rd n3 h3⟩
theorem UnitsAt.units {g : Nat} {w : World} {bp bm q N S : Nat} {f : Nat → Nat × Nat} (h : UnitsAt g w bp bm q N S f) : Units w #[.pointer (some ⟨bp, 0, none⟩), .pointer (some ⟨bm, 0, none⟩)] N S f := ⟨bp, bm, q, rfl, h.2.2.2⟩
theorem CRow.but {b g D cap : Nat} {w w' : World} {d : List (Nat × Nat)} (h : CRow b w (.slice (some ⟨g, 0, none⟩) D cap) d) (hu : Up w w') : CRow b w' (.slice (some ⟨g, 0, none⟩) D cap) d := h.up hu

theorem Up.drew (w : World) : Up w w.drew := Up.drewN w 1
/-- Where the halves are being joined: up to k they are. -/
def Join (off h k : Nat) (E O U : Nat → C2) (d0 d : List (Nat × Nat)) : Prop :=
  (∀ i, i < k → ab2 d[off + i]! = addC (E i) (mulC (O i) (U i)) ∧ ab2 d[off + h + i]! = subC (E i) (mulC (O i) (U i))) ∧ (∀ i, k ≤ i → i < h → ab2 d[off + i]! = E i ∧ ab2 d[off + h + i]! = O i) ∧ ∀ i, (i < off ∨ off + (h + h) ≤ i) → d[i]! = d0[i]!
theorem Join.step {off h k : Nat} {E O U : Nat → C2} {d0 d : List (Nat × Nat)} {p q : Nat × Nat} (H : Join off h k E O U d0 d) (hk : k < h) (hd : off + (h + h) ≤ d.length) (hp : ab2 p = addC (E k) (mulC (O k) (U k))) (hq : ab2 q = subC (E k) (mulC (O k) (U k))) :
    Join off h (k + 1) E O U d0 ((d.set (off + k) p).set (off + h + k) q) := by
  obtain ⟨h1, h2, h3⟩ := H
  have e : ∀ i, ((d.set (off + k) p).set (off + h + k) q)[i]! = if i = off + h + k then q else if i = off + k then p else d[i]! := fun i => by
    rw [set_at _ _ _ _ (by simp; omega), set_at _ _ _ _ (by omega)]
  refine ⟨fun i hi => ?_, fun i hi hi' => ?_, fun i hi => ?_⟩
  · rw [e, e]
    by_cases hik : i = k
    · subst hik
      rw [if_neg (by omega), if_pos rfl, if_pos rfl]
      exact ⟨hp, hq⟩
    · rw [if_neg (by omega), if_neg (by omega), if_neg (by omega), if_neg (by omega)]
      exact h1 i (by omega)
  · rw [e, e, if_neg (by omega), if_neg (by omega), if_neg (by omega), if_neg (by omega)]
    exact h2 i (by omega) hi'
  · rw [e, if_neg (by omega), if_neg (by omega)]
    exact h3 i hi
end Go.Proofs.Ytgalgnopjcpocaa
/- Fast. -/
namespace Go.Proofs.Ytgalgnopjcpocaa
open Go.ChangeShapes Go.WideShapes Go.ChangeAt Go.RowKit Go.Fl Ieee
attribute [local go_sem] run_store_float run_store_complex call20 call33 run_neg fold_eq fold_ne fold_lt fold_gt abs_eq

/-- A power of two? -/
def powB (n : Nat) : Bool := decide (0 < n) && (n &&& (n - 1)) == 0
theorem powB_two (M : Nat) : powB (2 ^ M) = true := by
  have h : 0 < 2 ^ M := Nat.pow_pos (by omega)
  unfold powB
  rw [Nat.and_two_pow_sub_one_eq_mod, Nat.mod_self]
  simp [h]
theorem wraps_i64_62 : ∀ n : Int, 0 ≤ n → n < 2 ^ 62 → IntKind.i64.wrap n = n := fun n h1 h2 => i64_id (by omega)
theorem and_pred (n : Nat) (hn : n < 4611686018427387904) (hp : 0 < n) : bits .and .i64 (n : Int) ((n : Int) - 1) = ((n &&& (n - 1) : Nat) : Int) := by
  have h := (bits_nat .i64 62 (by decide) wraps_i64_62 n (n - 1) (by omega) (by omega)).1
  rwa [show ((n - 1 : Nat) : Int) = (n : Int) - 1 by omega] at h
/-- The unit for j of 2^m, there or back, the whole having 2^M samples. -/
def uOf (back : Bool) (M j m : Nat) : C2 := unitF (wayOf back) (2 ^ M) (j * (2 ^ M / 2 ^ m))
theorem hv_congr {U V : Nat → Nat → C2} : ∀ (m : Nat) (F : Nat → C2) (j : Nat), (∀ k, k < m → ∀ j, j < 2 ^ k → U j (k + 1) = V j (k + 1)) → j < 2 ^ m → hv U m F j = hv V m F j
  | 0, _, _, _, _ => rfl
  | m + 1, F, j, h, hj => by
    have h' : ∀ k, k < m → ∀ j, j < 2 ^ k → U j (k + 1) = V j (k + 1) := fun k hk => h k (by omega)
    have e : 2 ^ (m + 1) = 2 ^ m + 2 ^ m := by rw [Nat.pow_succ]; omega
    rw [hv, hv]
    split
    · rename_i hlt
      rw [hv_congr m _ j h' hlt, hv_congr m _ j h' hlt, h m (by omega) j hlt]
    · rw [hv_congr m _ (j - 2 ^ m) h' (by omega), hv_congr m _ (j - 2 ^ m) h' (by omega), h m (by omega) (j - 2 ^ m) (by omega)]
/-- What Fast tells of 2^M samples. -/
def fastL (back : Bool) (M : Nat) (F : Nat → C2) : List C2 := if back then ((List.range (2 ^ M)).map (hv (uOf back M) M F)).map (divF (2 ^ M)) else (List.range (2 ^ M)).map (hv (uOf back M) M F)
theorem fast_row {n M : Nat} {back : Bool} {d : List (Nat × Nat)} {F : Nat → C2} {fu : Nat → Nat × Nat} (hn : n = 2 ^ M) (hd : d.length = n) (h : ∀ i, i < n → ab2 d[0 + i]! = hv (uAt fu M) M F i) (hu : ∀ j, j < 2 ^ M / 2 → ab2 (fu j) = unitF (wayOf back) (2 ^ M) j) :
    d.map ab2 = (List.range (2 ^ M)).map (hv (uOf back M) M F) := by
  subst hn
  refine List.ext_getElem? fun i => ?_
  by_cases hi : i < 2 ^ M
  · rw [ab2_at (by omega)]
    have := h i hi
    rw [Nat.zero_add] at this
    rw [this, List.getElem?_map, List.getElem?_range hi, hv_congr (V := uOf back M) M F i (fun k hk j hj => hu _ (uAt_lt (by omega) hj)) hi]; rfl
  · rw [List.getElem?_eq_none (by simp; omega), List.getElem?_eq_none (by simp; omega)]
theorem CRow.made {w w1 : World} {n g : Nat} (hg : w.heap.size = g) (hown : w1.ownsRow w.heap.size 53 1 (.slice (some ⟨w.heap.size, 0, none⟩) n n) n (madeCells (Value.complex .f64 0 0).cells (n * 1)).toList) (hgr : w.grownBy w1 none) : CRow g w1 (.slice (some ⟨g, 0, none⟩) n n) (List.replicate n (0, 0)) ∧ Up w w1 := by
  subst hg
  refine ⟨?_, Below.grown (Below.refl _ _) hgr (Nat.le_refl _) (fun j hj => by cases hj)⟩
  unfold CRow
  have e : (madeCells (Value.complex .f64 0 0).cells (n * 1)).toList = List.replicate n (.complex .f64 0 0) := by
    rw [Nat.mul_one]; exact toList_madeCells_one _ _
  rw [e] at hown
  simpa [ce] using hown
end Go.Proofs.Ytgalgnopjcpocaa
/- Near. -/
namespace Go.Proofs.Ytgalgnopjcpocaa
open Go.ChangeShapes Go.WideShapes Go.ChangeAt Go.RowKit Go.Fl Ieee
attribute [local go_sem] run_store_float run_store_complex call20 call33 run_neg fold_eq fold_ne fold_lt fold_gt abs_eq

/-- The greatest of the next m numbers, from k on, and of one; one that is no number ends it. -/
def nearG (D : Nat → Option Nat) : Nat → Nat → Option Nat → Option Nat
  | 0, _, most => most
  | m + 1, k, most => if nanF (D k) then D k else nearG D m (k + 1) (if gtF (D k) most then D k else most)
/-- How far two numbers are apart. -/
def offF (a b : Nat × Nat) : Option Nat := absF (bin .sub (ab a.1) (ab b.1)) (bin .sub (ab a.2) (ab b.2))
theorem nearG_step {D : Nat → Option Nat} {n k : Nat} {m r : Option Nat} (hk : k < n) (hr : r = D k) : nearG D (n - k) k m = if nanF r then r else nearG D (n - (k + 1)) (k + 1) (if gtF r m then r else m) := by
  rw [show n - k = (n - (k + 1)) + 1 by omega, nearG, hr]
end Go.Proofs.Ytgalgnopjcpocaa

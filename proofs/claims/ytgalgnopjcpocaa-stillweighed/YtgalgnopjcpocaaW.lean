/- The halves of a row of samples. -/
import Derived.Test.YtgalgnopjcpocaaV
import Derived.BigQuiet
namespace Go.Proofs.Ytgalgnopjcpocaa
open Go.ChangeShapes Go.WideShapes Go.ChangeAt Go.RowKit Go.Fl Ieee
theorem isSome_set {w : World} {a b : Addr} {v : Value} (h : (w.cell? b).isSome = true) : ((w.setCell a v).cell? b).isSome = true := by
  obtain ⟨u, hu⟩ := Option.isSome_iff_exists.1 h
  by_cases e : a = b
  · subst e; rw [World.cell?_setCell_same' _ _ _ h]; rfl
  · rw [World.cell?_setCell_other _ _ _ _ e, hu]; rfl
attribute [local go_sem] run_store_float run_store_c isSome_set call20 call33 run_neg fold_eq fold_ne fold_lt fold_gt abs_eq

/-- The difference of two complex numbers: part by part. -/
theorem run_csub {P : Program} (t : TypeId) (a b c d : Nat) (w : World) :
    ∃ r i n, (binOp .sub t (.complex .f64 a b) (.complex .f64 c d)).run P w = .ok (.complex .f64 r i) (w.drewN n) ∧ ab r = bin .sub (ab a) (ab c) ∧ ab i = bin .sub (ab b) (ab d) := by
  obtain ⟨r, n, e1, h1⟩ := run_fl (P := P) .sub t a c w (by simp)
  obtain ⟨i, m, e2, h2⟩ := run_fl (P := P) .sub t b d (w.drewN n) (by simp)
  have f1 : (Op.floatArith .sub .f64 a c).run P w = .ok (.float .f64 r) (w.drewN n) := e1
  have f2 : (Op.floatArith .sub .f64 b d).run P (w.drewN n) = .ok (.float .f64 i) ((w.drewN n).drewN m) := e2
  refine ⟨r, i, n + m, ?_, h1, h2⟩
  rw [World.drewN_drewN] at f2
  simp [binOp, Op.complexOp, Op.Complex.arith, f1, f2]
theorem upon_csub {P : Program} {o : Oper} {a : Act} {next : Act → World → Prop} {Q : Exit → Act → World → Prop} {t : TypeId} {x y x' y' : Nat} {w : World}
    {F : Value → World → Result Next} (hk : ∀ r i n, Hid (ab r = bin .sub (ab x) (ab x')) → Hid (ab i = bin .sub (ab y) (ab y')) → o.upon P a next Q (F (.complex .f64 r i) (w.drewN n))) :
    o.upon P a next Q (((binOp .sub t (.complex .f64 x y) (.complex .f64 x' y')).run P w).andThen F) := by
  obtain ⟨r, i, n, e, h1, h2⟩ := run_csub (P := P) t x y x' y' w
  rw [e]
  exact hk r i n h1 h2

/-- Complex numbers, all NaN being one. -/
abbrev C2 := Option Nat × Option Nat
def mulC (a b : C2) : C2 := (mulR a.1 a.2 b.1 b.2, mulI a.1 a.2 b.1 b.2)
def addC (a b : C2) : C2 := (bin .add a.1 b.1, bin .add a.2 b.2)
def subC (a b : C2) : C2 := (bin .sub a.1 b.1, bin .sub a.2 b.2)
/-- The halves of 2^m samples; U tells the unit for j and the level's m. -/
def hv (U : Nat → Nat → C2) : Nat → (Nat → C2) → Nat → C2
  | 0, F, _ => F 0
  | m + 1, F, j =>
    if j < 2 ^ m then addC (hv U m (fun i => F (2 * i)) j) (mulC (hv U m (fun i => F (2 * i + 1)) j) (U j (m + 1)))
    else subC (hv U m (fun i => F (2 * i)) (j - 2 ^ m)) (mulC (hv U m (fun i => F (2 * i + 1)) (j - 2 ^ m)) (U (j - 2 ^ m) (m + 1)))
/-- The unit for j of 2^m, out of a row of points the whole turn of which has 2^M. -/
def uAt (fu : Nat → Nat × Nat) (M : Nat) (j m : Nat) : C2 := ab2 (fu (j * (2 ^ M / 2 ^ m)))
theorem uAt_lt {M m j : Nat} (hm : m + 1 ≤ M) (hj : j < 2 ^ m) : j * (2 ^ M / 2 ^ (m + 1)) < 2 ^ M / 2 := by
  obtain ⟨k, rfl⟩ := Nat.exists_eq_add_of_le hm
  have e1 : 2 ^ (m + 1 + k) / 2 ^ (m + 1) = 2 ^ k := by
    rw [Nat.pow_add 2 (m + 1) k, Nat.mul_div_cancel_left _ (Nat.pow_pos (by omega))]
  have e2 : 2 ^ (m + 1 + k) / 2 = 2 ^ m * 2 ^ k := by
    rw [show m + 1 + k = m + k + 1 by omega, Nat.pow_succ, Nat.mul_div_cancel _ (by omega), Nat.pow_add]
  rw [e1, e2]
  exact Nat.mul_lt_mul_of_pos_right hj (Nat.pow_pos (by omega))
/-- What halves leaves: the row's stretch from off on is told anew, all else in it is as it was. -/
def HR (b g D cap off n : Nat) (G : Nat → C2) (d : List (Nat × Nat)) (w : World) (e : Ending) (w' : World) : Prop :=
  ∃ d', e = .returned (.tuple #[]) ∧ Hid (CRow b w' (.slice (some ⟨g, 0, none⟩) D cap) d') ∧ Hid (But g w w') ∧ Hid ((∀ i, i < n → ab2 d'[off + i]! = G i) ∧ ∀ i, (i < off ∨ off + n ≤ i) → d'[i]! = d[i]!)
/-- The closure of units, away from a block. -/
def UnitsAt (g : Nat) (w : World) (bp bm q N S : Nat) (f : Nat → Nat × Nat) : Prop := bp ≠ g ∧ bm ≠ g ∧ q ≠ g ∧ w.cell? ⟨bp, 0, none⟩ = some (.slice (some ⟨q, 0, none⟩) N N) ∧ w.cell? ⟨bm, 0, none⟩ = some (.int .i64 S) ∧ RD w q 0 N f
theorem UnitsAt.but {g : Nat} {w w' : World} {bp bm q N S : Nat} {f : Nat → Nat × Nat} (h : UnitsAt g w bp bm q N S f) (hb : But g w w') : UnitsAt g w' bp bm q N S f := by
  obtain ⟨n1, n2, n3, h1, h2, h3⟩ := h
  exact ⟨n1, n2, n3, hb.cell n1 h1, hb.cell n2 h2, hb.rd n3 h3⟩
theorem UnitsAt.units {g : Nat} {w : World} {bp bm q N S : Nat} {f : Nat → Nat × Nat} (h : UnitsAt g w bp bm q N S f) : Units w #[.pointer (some ⟨bp, 0, none⟩), .pointer (some ⟨bm, 0, none⟩)] N S f := ⟨bp, bm, q, rfl, h.2.2.2⟩
theorem CRow.but {b g D cap : Nat} {w w' : World} {d : List (Nat × Nat)} (h : CRow b w (.slice (some ⟨g, 0, none⟩) D cap) d) (hu : Up w w') : CRow b w' (.slice (some ⟨g, 0, none⟩) D cap) d := h.up hu

theorem Up.drew (w : World) : Up w w.drew := Up.drewN w 1
/-- Where the halves are being joined: up to k they are. -/
def Join (off h k : Nat) (E O U : Nat → C2) (d0 d : List (Nat × Nat)) : Prop :=
  (∀ i, i < k → ab2 d[off + i]! = addC (E i) (mulC (O i) (U i)) ∧ ab2 d[off + h + i]! = subC (E i) (mulC (O i) (U i))) ∧ (∀ i, k ≤ i → i < h → ab2 d[off + i]! = E i ∧ ab2 d[off + h + i]! = O i) ∧ ∀ i, (i < off ∨ off + (h + h) ≤ i) → d[i]! = d0[i]!
theorem Join.step {off h k : Nat} {E O U : Nat → C2} {d0 d : List (Nat × Nat)} {p q : Nat × Nat} (H : Join off h k E O U d0 d) (hk : k < h) (hd : off + (h + h) ≤ d.length) (hp : ab2 p = addC (E k) (mulC (O k) (U k))) (hq : ab2 q = subC (E k) (mulC (O k) (U k))) :
    Join off h (k + 1) E O U d0 ((d.set (off + k) p).set (off + h + k) q) := by
  obtain ⟨h1, h2, h3⟩ := H
  have e : ∀ i, ((d.set (off + k) p).set (off + h + k) q)[i]! = if i = off + h + k then q else if i = off + k then p else d[i]! := fun i => by
    rw [set_at _ _ _ _ (by simp; omega), set_at _ _ _ _ (by omega)]
  refine ⟨fun i hi => ?_, fun i hi hi' => ?_, fun i hi => ?_⟩
  · rw [e, e]
    by_cases hik : i = k
    · subst hik
      rw [if_neg (by omega), if_pos rfl, if_pos rfl]
      exact ⟨hp, hq⟩
    · rw [if_neg (by omega), if_neg (by omega), if_neg (by omega), if_neg (by omega)]
      exact h1 i (by omega)
  · rw [e, e, if_neg (by omega), if_neg (by omega), if_neg (by omega), if_neg (by omega)]
    exact h2 i (by omega) hi'
  · rw [e, if_neg (by omega), if_neg (by omega)]
    exact h3 i hi
end Go.Proofs.Ytgalgnopjcpocaa

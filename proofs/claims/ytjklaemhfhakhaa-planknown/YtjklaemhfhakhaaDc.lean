/- New. -/
import Derived.Test.YtjklaemhfhakhaaDb
namespace Go.Proofs.Ytjklaemhfhakhaa
open Go.ChangeShapes Go.WideShapes Go.ChangeAt Go.RowKit

/-- A task. -/
structure Tk where
  e : Int
  l : Int
  r : Int
def newP (T : Nat → Tk) : Pl := ⟨0, fun i => ⟨⟨0, (T i).e, (T i).l, (T i).r⟩, [], 0⟩⟩
structure TkAt (w : World) (g o : Nat) (t : Tk) : Prop where
  c0 : w.cell? ⟨g, o, none⟩ = some (.int .i64 t.e)
  c1 : w.cell? ⟨g, o + 1, none⟩ = some (.int .i64 t.l)
  c2 : w.cell? ⟨g, o + 2, none⟩ = some (.int .i64 t.r)
theorem TkAt.up {w w' : World} {g o : Nat} {t : Tk} (h : TkAt w g o t) (hu : Up w w') : TkAt w' g o t := ⟨cell_up h.c0 hu, cell_up h.c1 hu, cell_up h.c2 hu⟩
/-- Tasks that can be read. -/
structure TL (w : World) (p : Option Addr) (n cap : Nat) (T : Nat → Tk) : Prop where
  cap : n ≤ cap
  rd : 0 < n → ∃ b o, p = some ⟨b, o, none⟩ ∧ ∀ i, i < n → TkAt w b (o + i * 3) (T i)
theorem TL.up {w w' : World} {p : Option Addr} {n cap : Nat} {T : Nat → Tk} (h : TL w p n cap T) (hu : Up w w') : TL w' p n cap T :=
  ⟨h.cap, fun h0 => by
    obtain ⟨b, o, e, k⟩ := h.rd h0
    exact ⟨b, o, e, fun i hi => (k i hi).up hu⟩⟩
/-- What New keeps: k tasks have their rows. -/
structure NW (w : World) (n k bp bt : Nat) (br : Nat → Nat) (T : Nat → Tk) (wr : World) : Prop where
  p0 : wr.cell? ⟨bp, 0, none⟩ = some (.int .i64 0)
  p1 : wr.cell? ⟨bp, 1, none⟩ = some (.slice (some ⟨bt, 0, none⟩) n n)
  cr : ∀ i, i < k → wr.cell? ⟨bt, i * 2, none⟩ = some (.slice (some ⟨br i, 0, none⟩) 1 1)
  cs : ∀ i, i < n → (wr.cell? ⟨bt, i * 2, none⟩).isSome = true
  cd : ∀ i, i < n → wr.cell? ⟨bt, i * 2 + 1, none⟩ = some (.int .i64 0)
  rw' : ∀ i, i < k → RowAt wr (br i) 0 ⟨0, (T i).e, (T i).l, (T i).r⟩
  fp : ∀ j, wr.frozen? ⟨bp, j, none⟩ = false
  ft : ∀ j, wr.frozen? ⟨bt, j, none⟩ = false
  fr : ∀ i, i < k → ∀ j, wr.frozen? ⟨br i, j, none⟩ = false
  lp : bp < wr.heap.size
  lt : bt < wr.heap.size
  pt : bp ≠ bt
  rp : ∀ i, i < k → br i ≠ bp ∧ br i ≠ bt
  rr : ∀ i j, i < k → j < k → i ≠ j → br i ≠ br j
  ge : w.heap.size ≤ bp ∧ w.heap.size ≤ bt ∧ ∀ i, i < k → w.heap.size ≤ br i
  up : Up w wr
theorem NW.lr {w : World} {n k bp bt : Nat} {br : Nat → Nat} {T : Nat → Tk} {wr : World} (h : NW w n k bp bt br T wr) {i : Nat} (hi : i < k) : br i < wr.heap.size := World.block_lt_of_cell? wr _ (h.rw' i hi).nx
theorem RowAt.up {w w' : World} {g o : Nat} {x : Rw} (h : RowAt w g o x) (hu : Up w w') : RowAt w' g o x := h.kp (F := fun _ => True) (Kp.of_up hu) trivial
theorem frozen_up' {w w' : World} {g j : Nat} (h : w.frozen? ⟨g, j, none⟩ = false) (hl : g < w.heap.size) (hu : Up w w') : w'.frozen? ⟨g, j, none⟩ = false := (World.frozen?_of_block (hu.block g hl)).trans h
theorem NW.upp {w : World} {n k bp bt : Nat} {br : Nat → Nat} {T : Nat → Tk} {wr w' : World} (h : NW w n k bp bt br T wr) (hu : Up wr w') : NW w n k bp bt br T w' := by
  refine ⟨cell_up h.p0 hu, cell_up h.p1 hu, fun i hi => cell_up (h.cr i hi) hu, fun i hi => ?_, fun i hi => cell_up (h.cd i hi) hu, fun i hi => (h.rw' i hi).up hu, fun j => frozen_up' (h.fp j) h.lp hu, fun j => frozen_up' (h.ft j) h.lt hu, fun i hi j => frozen_up' (h.fr i hi j) (h.lr hi) hu, Nat.lt_of_lt_of_le h.lp hu.size, Nat.lt_of_lt_of_le h.lt hu.size, h.pt, h.rp, h.rr, h.ge, h.up.trans hu⟩
  obtain ⟨v, hv⟩ := Option.isSome_iff_exists.1 (h.cs i hi)
  rw [cell_up hv hu]; rfl
/-- One task has its row. -/
theorem NW.next {w : World} {n k bp bt : Nat} {br : Nat → Nat} {T : Nat → Tk} {wr : World} (h : NW w n k bp bt br T wr) (hk : k < n) {g : Nat} (hg : wr.heap[g]? = some (.cells #[.int .i64 0, .int .i64 (T k).e, .int .i64 (T k).l, .int .i64 (T k).r] 67 (0, 0))) (hw : w.heap.size ≤ g) (hf : g ≠ bp ∧ g ≠ bt ∧ ∀ i, i < k → br i ≠ g) :
    NW w n (k + 1) bp bt (upd br k g) T (wr.setCell ⟨bt, k * 2, none⟩ (.slice (some ⟨g, 0, none⟩) 1 1)) := by
  have u1 : ∀ i, i < k → upd br k g i = br i := fun i hi => upd_ne _ _ (by omega)
  have hkp : Kp (fun b => b ≠ bt) wr (wr.setCell ⟨bt, k * 2, none⟩ (.slice (some ⟨g, 0, none⟩) 1 1)) := Kp.set _ _ (fun q => q rfl) _
  have lg := (Array.getElem?_eq_some_iff.1 hg).1
  refine ⟨cell_other h.p0 (Or.inl h.pt), cell_other h.p1 (Or.inl h.pt), fun i hi => ?_, fun i hi => some_set (h.cs i hi), fun i hi => cell_other (h.cd i hi) (Or.inr (by show i * 2 + 1 ≠ k * 2; omega)), fun i hi => ?_, fun j => by rw [World.frozen?_setCell]; exact h.fp j, fun j => by rw [World.frozen?_setCell]; exact h.ft j, fun i hi j => ?_, Nat.lt_of_lt_of_le h.lp hkp.size, Nat.lt_of_lt_of_le h.lt hkp.size, h.pt, fun i hi => ?_, fun i j hi hj hne => ?_, ⟨h.ge.1, h.ge.2.1, fun i hi => ?_⟩, ?_⟩
  · by_cases e : i = k
    · subst e
      rw [upd_at]
      obtain ⟨v, hv⟩ := Option.isSome_iff_exists.1 (h.cs i hk)
      exact World.cell?_setCell_same _ _ _ hv
    · rw [u1 i (by omega)]
      exact cell_other (h.cr i (by omega)) (Or.inr (by show i * 2 ≠ k * 2; omega))
  · by_cases e : i = k
    · subst e
      rw [upd_at]
      exact RowAt.kp ⟨(row_cell hg 0).1, (row_cell hg 1).1, (row_cell hg 2).1, (row_cell hg 3).1⟩ hkp hf.2.1
    · rw [u1 i (by omega)]
      exact (h.rw' i (by omega)).kp hkp (h.rp i (by omega)).2
  · rw [World.frozen?_setCell]
    by_cases e : i = k
    · subst e; rw [upd_at]; exact (row_cell hg j).2
    · rw [u1 i (by omega)]; exact h.fr i (by omega) j
  · by_cases e : i = k
    · subst e; rw [upd_at]; exact ⟨hf.1, hf.2.1⟩
    · rw [u1 i (by omega)]; exact h.rp i (by omega)
  · by_cases e : i = k
    · subst e
      rw [upd_at, u1 j (by omega)]
      exact fun q => hf.2.2 j (by omega) q.symm
    · by_cases e2 : j = k
      · subst e2
        rw [upd_at, u1 i (by omega)]
        exact hf.2.2 i (by omega)
      · rw [u1 i (by omega), u1 j (by omega)]
        exact h.rr i j (by omega) (by omega) hne
  · by_cases e : i = k
    · subst e; rw [upd_at]; exact hw
    · rw [u1 i (by omega)]; exact h.ge.2.2 i (by omega)
  · exact h.up.setCell h.ge.2.1 _
/-- All have. -/
theorem NW.pw {w : World} {n bp bt : Nat} {br : Nat → Nat} {T : Nat → Tk} {wr : World} (h : NW w n n bp bt br T wr) : PW wr ⟨bp, bt, br, fun _ => 0, fun _ => 1⟩ n (newP T) ∧ Ly.Ok ⟨bp, bt, br, fun _ => 0, fun _ => 1⟩ n ∧ (∀ b, Ly.Own ⟨bp, bt, br, fun _ => 0, fun _ => 1⟩ n b → w.heap.size ≤ b) := by
  refine ⟨⟨h.p0, h.p1, h.cr, h.cd, fun i hi k x hx => ?_, fun i hi => Nat.le_refl _, fun i hi k hk => ?_, h.lp, h.lt, h.fp, h.ft, h.fr⟩, ⟨h.pt, fun i hi => (h.rp i hi).1, fun i hi => (h.rp i hi).2, h.rr⟩, fun b hb => ?_⟩
  · cases k with
    | zero =>
      simp only [List.getElem?_cons_zero, Option.some.injEq] at hx
      subst hx
      exact h.rw' i hi
    | succ k => cases hx
  · obtain ⟨a, b, c, d⟩ := h.rw' i hi
    simp only [Nat.zero_add] at a b c d ⊢
    have : k < 4 := by simpa using hk
    rcases (show k = 0 ∨ k = 1 ∨ k = 2 ∨ k = 3 by omega) with rfl | rfl | rfl | rfl
    · rw [a]; rfl
    · rw [b]; rfl
    · rw [c]; rfl
    · rw [d]; rfl
  · rcases hb with rfl | rfl | ⟨i, hi, rfl⟩
    · exact h.ge.1
    · exact h.ge.2.1
    · exact h.ge.2.2 i hi
end Go.Proofs.Ytjklaemhfhakhaa

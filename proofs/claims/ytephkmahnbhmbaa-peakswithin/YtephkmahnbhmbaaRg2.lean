/- Groups: the walk. -/
import Derived.Test.YtephkmahnbhmbaaRf
import Derived.Test.YtephkmahnbhmbaaRg
namespace Go.Proofs.Ytephkmahnbhmbaa
open Go.ChangeShapes Go.WideShapes Go.ChangeAt Go.RowKit Go.Fl Go.Sort Go.Shelf Go.Lib Go.Maps
attribute [local go_sem] run_store_float call52 run_neg fold_eq fold_ne fold_lt fold_gt abs_eq eqg57

theorem fR_snoc {l : List Spt} {s : Spt} (h : ∀ t ∈ l, cellOf t ≠ cellOf s) (x : Int × Int) : fR (l ++ [s]) x = if x = cellOf s then some s else fR l x := by
  unfold fR
  rw [List.find?_append]
  by_cases hx : x = cellOf s
  · rw [if_pos hx]
    have : l.find? (atC x) = none := by
      rw [List.find?_eq_none]
      intro t ht
      simp [atC, hx]
      have := h t ht
      simpa using this
    rw [this]
    simp [atC, hx]
  · rw [if_neg hx]
    have : [s].find? (atC x) = none := by
      rw [List.find?_eq_none]
      intro t ht
      simp at ht
      subst ht
      simp [atC]
      exact fun e => hx (by simpa using e.symm)
    rw [this]
    simp
theorem take_snoc {C : List Spt} {i : Nat} (h : i < C.length) : C.take (i + 1) = C.take i ++ [C[i]!] := by
  rw [List.take_add_one, List.getElem?_eq_getElem h, getElem!_pos C i h]; rfl
theorem take_dis {C : List Spt} (h : Dis C) {i : Nat} (hi : i < C.length) : ∀ t ∈ C.take i, cellOf t ≠ cellOf C[i]! := by
  have h2 := List.pairwise_append.1 (List.Pairwise.sublist (List.take_sublist (i + 1) C) h |> fun p => (take_snoc hi) ▸ p)
  intro t ht
  exact h2.2.2 t ht _ (by simp)
/-- What the call leaves. -/
def GRes (w : World) (Gs : List (List Spt)) (e : Ending) (w' : World) : Prop := ∃ p c A C D, e = .returned (.slice p Gs.length c) ∧ Hid (GT w.heap.size w' (.slice p Gs.length c) Gs.length A C D ∧ ∀ a, a < Gs.length → D a = Gs[a]!) ∧ Hid (Up w w')
theorem GT.base {b b' : Nat} {W : World} {v : Value} {k : Nat} {A C : Nat → Nat} {D : Nat → List Spt} (h : GT b W v k A C D) (hb : b' ≤ b) : GT b' W v k A C D := by
  refine ⟨?_, fun a ha => ⟨(h.row a ha).1, Nat.le_trans hb (h.row a ha).2⟩, h.apart, h.inj⟩
  obtain ⟨h1, h2⟩ := h.own
  refine ⟨h1, ?_⟩
  rcases h2 with h2 | ⟨g, cap, cur, e, k2, k3⟩
  · exact Or.inl h2
  · exact Or.inr ⟨g, cap, cur, e, Nat.le_trans hb k2, k3⟩
/-- What is known in the first loop. -/
structure L1 (w w1 : World) (q : Option Addr) (M c mb i : Nat) (C : List Spt) (wr : World) : Prop where
  up : Up w w1
  len : C.length = M
  row : M = 0 ∨ ∃ r, q = some ⟨r, 0, none⟩ ∧ OwnR wr r c C.toArray ∧ r < mb
  map : MM wr mb i (fR (C.take i))
  kp : Kp (fun k => k < mb) w1 wr
  hmb : mb = w1.heap.size
  lt : mb < wr.heap.size
theorem L1.up' {w w1 : World} {q : Option Addr} {M c mb i : Nat} {C : List Spt} {wr W : World} (h : L1 w w1 q M c mb i C wr) (hu : Up wr W) : L1 w w1 q M c mb i C W :=
  ⟨h.up, h.len, h.row.imp_right (fun ⟨r, e, o, l⟩ => ⟨r, e, o.up hu, l⟩), h.map.up hu, h.kp.trans (Kp.of_up hu), h.hmb, Nat.lt_of_lt_of_le h.lt (RowKit.Below.size hu)⟩
theorem L1.step {w w1 : World} {q : Option Addr} {M c mb i : Nat} {C : List Spt} {wr W : World} (h : L1 w w1 q M c mb i C wr) (hD : Dis C) (hi : i < M) (hm : MM W mb (i + 1) (fun x => if x = cellOf C[i]! then some C[i]! else fR (C.take i) x)) (hk : Kp (fun k => k ≠ mb) wr W) : L1 w w1 q M c mb (i + 1) C W := by
  have hl := h.len
  refine ⟨h.up, h.len, h.row.imp_right (fun ⟨r, e, o, l⟩ => ⟨r, e, o.kp hk (by omega), l⟩), ?_, h.kp.trans (hk.mono (fun k hk => by omega)), h.hmb, Nat.lt_of_lt_of_le h.lt hk.size⟩
  have e : (fun x => if x = cellOf C[i]! then some C[i]! else fR (C.take i) x) = fR (C.take (i + 1)) := funext fun x => by
    rw [take_snoc (by omega), fR_snoc (take_dis hD (by omega))]
  rw [← e]; exact hm
/-- .. and in the second. -/
structure L2 (w w1 : World) (q : Option Addr) (M c mb i : Nat) (bins : Int) (C : List Spt) (v : Value) (k : Nat) (A Cc : Nat → Nat) (D : Nat → List Spt) (wr : World) : Prop where
  up : Up w w1
  row : M = 0 ∨ ∃ r, q = some ⟨r, 0, none⟩ ∧ OwnR wr r c C.toArray ∧ r < mb
  map : MM wr mb M (fR (grpN bins C i).2)
  kp : Kp (fun k => k < mb) w1 wr
  gt : GT (mb + 1) wr v k A Cc D
  len : k = (grpN bins C i).1.length
  is : ∀ a, a < k → D a = ((grpN bins C i).1)[a]!
  lt : mb < wr.heap.size
theorem L2.up' {w w1 : World} {q : Option Addr} {M c mb i : Nat} {bins : Int} {C : List Spt} {v : Value} {k : Nat} {A Cc : Nat → Nat} {D : Nat → List Spt} {wr W : World} (h : L2 w w1 q M c mb i bins C v k A Cc D wr) (hu : Up wr W) : L2 w w1 q M c mb i bins C v k A Cc D W :=
  ⟨h.up, h.row.imp_right (fun ⟨r, e, o, l⟩ => ⟨r, e, o.up hu, l⟩), h.map.up hu, h.kp.trans (Kp.of_up hu), h.gt.up hu, h.len, h.is, Nat.lt_of_lt_of_le h.lt (RowKit.Below.size hu)⟩
end Go.Proofs.Ytephkmahnbhmbaa

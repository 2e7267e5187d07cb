/- StillWeighed: whole: pairs that are handed in; rows that are appended. -/
import Derived.Test.YtgalgnopjcpocaaVa
import Derived.Test.YtgalgnopjcpocaaQb
import Derived.Deep.CutRange
import Derived.Deep.AppendLies
namespace Go.Proofs.Ytgalgnopjcpocaa
open Go.ChangeShapes Go.WideShapes Go.ChangeAt Go.RowKit Go.Fl Ieee

/-- A slice of pairs of whole numbers that can be read. -/
def PI (w : World) (p : Option Addr) (n : Nat) (f : Nat → Int × Int) : Prop := 0 < n → ∃ b o, p = some ⟨b, o, none⟩ ∧ ∀ i, i < n → w.cell? ⟨b, o + i * 2, none⟩ = some (.int .i64 (f i).1) ∧ w.cell? ⟨b, o + i * 2 + 1, none⟩ = some (.int .i64 (f i).2)
/-- Rows of pairs that were handed in. -/
structure GP (w : World) (R ro n : Nat) (P : Nat → Option Addr) (Ln Cp : Nat → Nat) (f : Nat → Nat → Int × Int) : Prop where
  hdr : ∀ i, i < n → w.cell? ⟨R, ro + i, none⟩ = some (.slice (P i) (Ln i) (Cp i))
  row : ∀ i, i < n → PI w (P i) (Ln i) (f i)
/-- The least of so many lengths. -/
def mn (L : Nat → Nat) : Nat → Nat
  | 0 => 0
  | k + 1 => if k = 0 ∨ L k < mn L k then L k else mn L k
theorem mn_le (L : Nat → Nat) : ∀ n i, i < n → mn L n ≤ L i
  | 0, i, h => by omega
  | n + 1, i, h => by
    rw [mn]
    rcases Nat.lt_or_ge i n with q | q
    · have := mn_le L n i q
      split <;> omega
    · obtain rfl : i = n := by omega
      split <;> omega
/-- A pair as whole floats, cut to size. -/
def cutZ (z : Int × Int) : Int × Int := (z.1.tmod 549755813888, z.2.tmod 549755813888)
def wv (z : Int × Int) : Nat × Nat := (floatOfInt .f64 (cutZ z).1, floatOfInt .f64 (cutZ z).2)
theorem tmod_le (x : Int) : -549755813888 < x.tmod 549755813888 ∧ x.tmod 549755813888 < 549755813888 :=
  ⟨Int.lt_tmod_of_pos x (by omega), Int.tmod_lt_of_pos x (by omega)⟩
theorem wv_wh (z : Int × Int) : WH2 (ab2 (wv z)) (cutZ z) := by
  have h1 := tmod_le z.1
  have h2 := tmod_le z.2
  exact ⟨WH.int (by unfold P53 cutZ; omega) (by unfold P53 cutZ; omega), WH.int (by unfold P53 cutZ; omega) (by unfold P53 cutZ; omega)⟩
theorem owns_keep {w w' : World} {b n s : Nat} {t : TypeId} {v : Value} {xs : List Value} {row : Option Nat} (h : w.ownsRow b t s v n xs) (hg : w.grownBy w' row) (hne : ∀ g, v.ownBlock = some g → row ≠ some g) : w'.ownsRow b t s v n xs := by
  have hl := h.lt
  obtain ⟨h1, h2⟩ := h
  refine ⟨h1, ?_⟩
  rcases h2 with h2 | ⟨g0, cap0, cur, rfl, k2, k3, k4⟩
  · exact Or.inl h2
  · refine Or.inr ⟨g0, cap0, cur, rfl, k2, ?_, k4⟩
    rw [hg.block g0 (hl g0 rfl).2 (fun e => hne g0 rfl e.symm)]; exact k3
/-- Rows that were appended, each in memory of its own. -/
structure TT (w0 W : World) (v : Value) (n k : Nat) (P : Nat → Option Addr) (C : Nat → Nat) (D : Nat → List (Nat × Nat)) : Prop where
  own : W.ownsRow w0.heap.size 54 1 v k ((List.range k).map fun a => Value.slice (P a) n (C a))
  row : ∀ a, a < k → CRow w0.heap.size W (.slice (P a) n (C a)) (D a)
  apart : ∀ a g, a < k → (Value.slice (P a) n (C a)).ownBlock = some g → v.ownBlock ≠ some g
  inj : ∀ a b g, a < k → b < k → (Value.slice (P a) n (C a)).ownBlock = some g → (Value.slice (P b) n (C b)).ownBlock = some g → a = b
  up : Up w0 W
theorem TT.upw {w0 W W' : World} {v : Value} {n k : Nat} {P : Nat → Option Addr} {C : Nat → Nat} {D : Nat → List (Nat × Nat)} (h : TT w0 W v n k P C D) (u : Up W W') : TT w0 W' v n k P C D :=
  ⟨owns_up h.own u, fun a ha => (h.row a ha).up u, h.apart, h.inj, h.up.trans u⟩
theorem TT.nil (w : World) (n : Nat) : TT w w (.slice none 0 0) n 0 (fun _ => none) (fun _ => 0) (fun _ => []) :=
  ⟨World.ownsRow_nil _ _ _ _, fun a h => by omega, fun a g h => by omega, fun a b g h => by omega, Up.refl _⟩
theorem base_down {b b' n s : Nat} {w : World} {t : TypeId} {v : Value} {xs : List Value} (h : w.ownsRow b t s v n xs) (hb : b' ≤ b) : w.ownsRow b' t s v n xs := by
  obtain ⟨h1, h2⟩ := h
  refine ⟨h1, ?_⟩
  rcases h2 with h2 | ⟨g, cap, cur, rfl, k2, k3⟩
  · exact Or.inl h2
  · exact Or.inr ⟨g, cap, cur, rfl, Nat.le_trans hb k2, k3⟩
/-- One row more. -/
theorem TT.app {w0 W W1 w2 : World} {v : Value} {n k g c cap j : Nat} {q : Option Addr} {P : Nat → Option Addr} {C : Nat → Nat} {D : Nat → List (Nat × Nat)} {d : List (Nat × Nat)} {o : Obj} (h : TT w0 W v n k P C D) (u : Up W W1) (hr : CRow W.heap.size W1 (.slice q n c) d)
    (hown : w2.ownsRow w0.heap.size 54 1 (.slice (some ⟨g, 0, none⟩) (k + 1) cap) (k + 1) (((List.range k).map fun a => Value.slice (P a) n (C a)) ++ [.slice q n c])) (hg : ((W1.alloc o).drewN j).grownBy w2 v.ownBlock) (hat : v.ownBlock = some g ∨ g = (W1.alloc o).heap.size) :
    TT w0 w2 (.slice (some ⟨g, 0, none⟩) (k + 1) cap) n (k + 1) (fun a => if a < k then P a else q) (fun a => if a < k then C a else c) (fun a => if a < k then D a else d) := by
  have u1 : Up W ((W1.alloc o).drewN j) := u.trans ((Up.alloc _ _).trans (Up.drewN _ _))
  have u2 : Up W1 ((W1.alloc o).drewN j) := (Up.alloc _ _).trans (Up.drewN _ _)
  have lv : ∀ x, v.ownBlock = some x → w0.heap.size ≤ x ∧ x < W.heap.size := fun x hx => World.ownsRow.lt h.own x hx
  have lr : ∀ x, (Value.slice q n c).ownBlock = some x → W.heap.size ≤ x ∧ x < W1.heap.size := fun x hx => World.ownsRow.lt hr x hx
  have lo : ∀ a x, a < k → (Value.slice (P a) n (C a)).ownBlock = some x → x < W.heap.size := fun a x ha hx => (World.ownsRow.lt (h.row a ha) x hx).2
  have s1 : W1.heap.size ≤ (W1.alloc o).heap.size := (Up.alloc _ _).size
  have s2 := u.size
  refine ⟨?_, fun a ha => ?_, fun a x ha hx => ?_, fun a b x ha hb hx hy => ?_, grown_up (h.up.trans u1) hg (fun x hx => (lv x hx).1)⟩
  · rw [List.range_succ, List.map_append]
    have e : (List.range k).map (fun a => Value.slice (if a < k then P a else q) n (if a < k then C a else c)) = (List.range k).map fun a => Value.slice (P a) n (C a) := by
      refine List.map_congr_left fun a ha => ?_
      have := List.mem_range.mp ha
      rw [if_pos this, if_pos this]
    rw [e]
    simpa using hown
  · by_cases e : a < k
    · simp only [if_pos e]
      exact owns_keep ((h.row a e).up u1) hg (fun x hx => h.apart a x e hx)
    · simp only [if_neg e]
      exact base_down (owns_keep (hr.up u2) hg (fun x hx hv => by have := lv x hv; have := lr x hx; omega)) h.up.size
  · have nx : x < W1.heap.size := by
      by_cases e : a < k
      · simp only [if_pos e] at hx; have := lo a x e hx; omega
      · simp only [if_neg e] at hx; exact (lr x hx).2
    intro hv
    have hv' : g = x := by simpa [Value.ownBlock] using hv
    subst hv'
    rcases hat with q1 | q1
    · by_cases e : a < k
      · simp only [if_pos e] at hx; exact h.apart a g e hx q1
      · simp only [if_neg e] at hx; have := lr g hx; have := lv g q1; omega
    · omega
  · by_cases e1 : a < k <;> by_cases e2 : b < k
    · simp only [if_pos e1] at hx; simp only [if_pos e2] at hy; exact h.inj a b x e1 e2 hx hy
    · simp only [if_pos e1] at hx; simp only [if_neg e2] at hy; have := lo a x e1 hx; have := lr x hy; omega
    · simp only [if_neg e1] at hx; simp only [if_pos e2] at hy; have := lo b x e2 hy; have := lr x hx; omega
    · omega
/-- A row under way. -/
structure RU (W wr : World) (v : Value) (k : Nat) (f : Nat → Int × Int) (d : List (Nat × Nat)) : Prop where
  own : CRow W.heap.size wr v d
  len : d.length = k
  up : Up W wr
  val : ∀ g, g < k → d[g]! = wv (f g)
theorem RU.nil (W : World) (f : Nat → Int × Int) : RU W W (.slice none 0 0) 0 f [] := ⟨World.ownsRow_nil _ _ _ _, rfl, Up.refl _, fun g h => by omega⟩
theorem RU.app {W wr w1 : World} {v : Value} {k g cap j : Nat} {f : Nat → Int × Int} {d : List (Nat × Nat)} {o : Obj} {x : Nat × Nat} (h : RU W wr v k f d) (hx : x = wv (f k)) (hown : w1.ownsRow W.heap.size 53 1 (.slice (some ⟨g, 0, none⟩) (k + 1) cap) (k + 1) (d.map ce ++ [.complex .f64 x.1 x.2])) (hg : ((wr.alloc o).drewN j).grownBy w1 v.ownBlock) : RU W w1 (.slice (some ⟨g, 0, none⟩) (k + 1) cap) (k + 1) f (d ++ [x]) := by
  refine ⟨?_, by simp [h.len], grown_up (h.up.trans ((Up.alloc _ _).trans (Up.drewN _ _))) hg (fun y hy => (World.ownsRow.lt h.own y hy).1), fun a ha => ?_⟩
  · unfold CRow
    rw [List.length_append, List.map_append, h.len]
    exact hown
  · have hl := h.len
    rw [getElem!_pos _ a (by simp; omega)]
    by_cases e : a < k
    · rw [List.getElem_append_left (by omega), ← getElem!_pos d a (by omega)]
      exact h.val a e
    · obtain rfl : a = k := by omega
      rw [List.getElem_append_right (by omega)]
      simp [hx]
set_option maxRecDepth 20000 in
theorem info53 : (Try.prog.info? 53).map (fun i => (i.zero, i.size, i.bytes)) = some (some (.complex .f64 0 0), 1, 16) := by kernel_rfl
set_option maxRecDepth 20000 in
theorem info54 : (Try.prog.info? 54).map (fun i => (i.zero, i.size, i.bytes)) = some (some (.slice none 0 0), 1, 24) := by kernel_rfl
/-- What whole leaves. -/
def WO (w : World) (N n : Nat) (f : Nat → Nat → Int × Int) (e : Ending) (w' : World) : Prop :=
  ∃ A cap P C D, e = .returned (.slice (some ⟨A, 0, none⟩) N cap) ∧ Hid (TT w w' (.slice (some ⟨A, 0, none⟩) N cap) n N P C D) ∧ Hid (∀ a, a < N → ∀ g, g < n → (D a)[g]! = wv (f a g))
end Go.Proofs.Ytgalgnopjcpocaa

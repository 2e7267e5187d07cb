/- States in memory: five floats each. -/
import Derived.Test.YtcgbmcnefolgcaaHh
import Derived.Test.YtcgbmcnefolgcaaAg
namespace Go.Proofs.Ytcgbmcnefolgcaa
open Go.ChangeShapes Go.WideShapes Go.ChangeAt Go.RowKit Go.Fl Go.Sort
attribute [local go_sem] run_store_float call22 call54 run_neg fold_eq fold_ne fold_lt fold_gt abs_eq

/-- A state's five words. -/
structure Stt where
  x : Nat
  v : Nat
  a : Nat
  b : Nat
  c : Nat
def Stt.zero : Stt := ⟨0, 0, 0, 0, 0⟩
structure Stt.Fit (q : Stt) : Prop where
  x : q.x < 2 ^ 64
  v : q.v < 2 ^ 64
  a : q.a < 2 ^ 64
  b : q.b < 2 ^ 64
  c : q.c < 2 ^ 64
/-- As numbers. -/
def Stt.ab (s : Stt) : S5 := ⟨Go.Fl.ab s.x, Go.Fl.ab s.v, Go.Fl.ab s.a, Go.Fl.ab s.b, Go.Fl.ab s.c⟩
abbrev Stt.val (s : Stt) : Value := .agg #[.float .f64 s.x, .float .f64 s.v, .float .f64 s.a, .float .f64 s.b, .float .f64 s.c]
/-- A plot's cells at a place. -/
structure P5 (w : World) (b o : Nat) (p : Stt) : Prop where
  c0 : w.cell? ⟨b, o, none⟩ = some (.float .f64 p.x)
  c1 : w.cell? ⟨b, o + 1, none⟩ = some (.float .f64 p.v)
  c2 : w.cell? ⟨b, o + 2, none⟩ = some (.float .f64 p.a)
  c3 : w.cell? ⟨b, o + 3, none⟩ = some (.float .f64 p.b)
  c4 : w.cell? ⟨b, o + 4, none⟩ = some (.float .f64 p.c)
theorem P5.up {w w' : World} {b o : Nat} {p : Stt} (h : P5 w b o p) (hu : Up w w') : P5 w' b o p := ⟨cell_up h.c0 hu, cell_up h.c1 hu, cell_up h.c2 hu, cell_up h.c3 hu, cell_up h.c4 hu⟩
/-- A slice that holds these plots. -/
structure SS (w : World) (p : Option Addr) (n cap : Nat) (P : Nat → Stt) : Prop where
  cap : n ≤ cap
  few : n ≤ 2000000
  rd : 0 < n → ∃ b o, p = some ⟨b, o, none⟩ ∧ ∀ i, i < n → P5 w b (o + i * 5) (P i)
theorem SS.up {w w' : World} {p : Option Addr} {n cap : Nat} {P : Nat → Stt} (h : SS w p n cap P) (hu : Up w w') : SS w' p n cap P :=
  ⟨h.cap, h.few, fun h0 => by
    obtain ⟨b, o, e, k⟩ := h.rd h0
    exact ⟨b, o, e, fun i hi => (k i hi).up hu⟩⟩
def sL (p : Stt) : List Value := [.float .f64 p.x, .float .f64 p.v, .float .f64 p.a, .float .f64 p.b, .float .f64 p.c]
def fl5 (D : List Stt) : List Value := D.flatMap sL
theorem fl5_len : ∀ D : List Stt, (fl5 D).length = D.length * 5
  | [] => rfl
  | p :: D => by
    unfold fl5
    rw [List.flatMap_cons, List.length_append]
    have := fl5_len D
    unfold fl5 at this
    rw [this]
    simp [sL]
    omega
theorem fl5_at : ∀ {D : List Stt} {i k : Nat} (_ : i < D.length) (_ : k < 5), (fl5 D)[i * 5 + k]? = (sL (D.getD i Stt.zero))[k]?
  | p :: D, 0, k, _, hk => by
    unfold fl5
    rw [List.flatMap_cons, List.getElem?_append_left (by simp [sL]; omega)]
    simp
  | p :: D, i + 1, k, hi, hk => by
    unfold fl5
    rw [List.flatMap_cons, List.getElem?_append_right (by simp [sL]; omega)]
    have := fl5_at (D := D) (i := i) (k := k) (by simpa using hi) hk
    unfold fl5 at this
    rw [show (i + 1) * 5 + k - (sL p).length = i * 5 + k by simp [sL]; omega, this]
    simp
/-- A row of plots of one's own. -/
def SO (b : Nat) (w : World) (v : Value) (D : List Stt) : Prop := w.ownsRow b 27 5 v D.length (fl5 D)
theorem SO.up {b : Nat} {w w' : World} {v : Value} {D : List Stt} (h : SO b w v D) (hu : Up w w') : SO b w' v D := owns_up h hu
theorem SO.nil (b : Nat) (w : World) : SO b w (.slice none 0 0) [] := ⟨by simp [fl5], Or.inl ⟨rfl, rfl⟩⟩
theorem SO.form {b : Nat} {w : World} {v : Value} {D : List Stt} (h : SO b w v D) : ∃ p cap, v = .slice p D.length cap ∧ (0 < D.length → ∃ g, p = some ⟨g, 0, none⟩) := own_form h
theorem SO.at {b : Nat} {w : World} {p : Option Addr} {n cap : Nat} {D : List Stt} (h : SO b w (.slice p n cap) D) {i : Nat} (hi : i < D.length) : ∃ g, p = some ⟨g, 0, none⟩ ∧ b ≤ g ∧ g < w.heap.size ∧ P5 w g (i * 5) (D.getD i Stt.zero) := by
  rcases h.2 with ⟨h0, h1⟩ | ⟨g, cap', cur, e, h1, h2, h3, h4, h5, h6⟩
  · omega
  · simp only [Value.slice.injEq] at e
    obtain ⟨rfl, rfl, rfl⟩ := e
    refine ⟨g, rfl, h1, (Array.getElem?_eq_some_iff.1 h2).1, ?_⟩
    have c : ∀ k v, k < 5 → (sL (D.getD i Stt.zero))[k]? = some v → w.cell? ⟨g, i * 5 + k, none⟩ = some v := fun k v hk hv => by
      rw [← fl5_at hi hk, ← h6, List.getElem?_take, if_pos (by omega)] at hv
      unfold World.cell?
      simp only [h2]
      rw [Array.getElem?_toList] at hv
      simpa using hv
    exact ⟨c 0 _ (by omega) rfl, c 1 _ (by omega) rfl, c 2 _ (by omega) rfl, c 3 _ (by omega) rfl, c 4 _ (by omega) rfl⟩
theorem SO.len {b : Nat} {w : World} {p : Option Addr} {n cap : Nat} {D : List Stt} (h : SO b w (.slice p n cap) D) : D.length = n := by
  obtain ⟨p', cap', he, _⟩ := h.form
  simp only [Value.slice.injEq] at he
  exact he.2.1.symm
theorem SO.frz {b : Nat} {w : World} {g n cap : Nat} {D : List Stt} (h : SO b w (.slice (some ⟨g, 0, none⟩) n cap) D) (i : Nat) : w.frozen? ⟨g, i, none⟩ = false := by
  rcases h.2 with ⟨h0, h1⟩ | ⟨g', cap', cur, e, h1, h2, h3⟩
  · cases h0
  · simp only [Value.slice.injEq, Option.some.injEq, Addr.mk.injEq] at e
    obtain ⟨⟨rfl, _⟩, _⟩ := e
    unfold World.frozen?
    simp [h2]
theorem SO.app {b : Nat} {w : World} {v : Value} {D : List Stt} {p : Stt} (h : w.ownsRow b 27 5 v (D.length + 1) (fl5 D ++ sL p)) : SO b w v (D ++ [p]) := by
  unfold SO
  unfold fl5 at *
  rw [List.flatMap_append]
  simpa using h
theorem info27 : (Try.prog.info? 27).map (fun i => (i.zero, i.size, i.bytes)) = some (some (.agg #[.float .f64 0, .float .f64 0, .float .f64 0, .float .f64 0, .float .f64 0]), 5, 40) := by kernel_rfl
theorem five_new (w : World) (p : Stt) (t : TypeId) : ∀ (j : Nat) (u : Value), (sL p)[j]? = some u → (w.alloc (.cells #[.float .f64 p.x, .float .f64 p.v, .float .f64 p.a, .float .f64 p.b, .float .f64 p.c] t)).cell? ((⟨w.heap.size, 0, none⟩ : Addr).add j) = some u := by
  intro j u hj
  have hl : j < 5 := by
    have := (List.getElem?_eq_some_iff.1 hj).1
    simpa [sL] using this
  rcases (show j = 0 ∨ j = 1 ∨ j = 2 ∨ j = 3 ∨ j = 4 by omega) with rfl | rfl | rfl | rfl | rfl <;>
    (simp [sL] at hj; subst hj; exact World.cell?_alloc_at _ _ _ _ rfl)
theorem five_one (p : Stt) : ∀ u ∈ sL p, u.oneCell' = true := by
  intro u hu
  simp [sL] at hu
  rcases hu with rfl | rfl | rfl | rfl | rfl <;> rfl


theorem fl5_set5 : ∀ {D : List Stt} {i : Nat} (s : Stt) (_ : i < D.length), (((((fl5 D).set (i * 5) (.float .f64 s.x)).set (i * 5 + 1) (.float .f64 s.v)).set (i * 5 + 2) (.float .f64 s.a)).set (i * 5 + 3) (.float .f64 s.b)).set (i * 5 + 4) (.float .f64 s.c) = fl5 (D.set i s)
  | p :: D, 0, s, _ => by
    unfold fl5
    simp [sL]
  | p :: D, i + 1, s, hi => by
    have := fl5_set5 (D := D) (i := i) s (by simpa using hi)
    unfold fl5 at *
    rw [List.flatMap_cons, List.set_cons_succ, List.flatMap_cons, ← this]
    have h5 : (sL p).length = 5 := rfl
    rw [List.set_append_right _ _ (by omega), List.set_append_right _ _ (by omega), List.set_append_right _ _ (by omega), List.set_append_right _ _ (by omega), List.set_append_right _ _ (by omega), h5]
    rw [show (i + 1) * 5 - 5 = i * 5 by omega, show (i + 1) * 5 + 1 - 5 = i * 5 + 1 by omega, show (i + 1) * 5 + 2 - 5 = i * 5 + 2 by omega, show (i + 1) * 5 + 3 - 5 = i * 5 + 3 by omega, show (i + 1) * 5 + 4 - 5 = i * 5 + 4 by omega]
/-- A state is laid at a place. -/
def put5 (w : World) (g o : Nat) (s : Stt) : World := ((((w.setCell ⟨g, o, none⟩ (.float .f64 s.x)).setCell ⟨g, o + 1, none⟩ (.float .f64 s.v)).setCell ⟨g, o + 2, none⟩ (.float .f64 s.a)).setCell ⟨g, o + 3, none⟩ (.float .f64 s.b)).setCell ⟨g, o + 4, none⟩ (.float .f64 s.c)
theorem SO.put {b : Nat} {w : World} {g n cap : Nat} {D : List Stt} (h : SO b w (.slice (some ⟨g, 0, none⟩) n cap) D) {i : Nat} (hi : i < D.length) (s : Stt) : SO b (put5 w g (i * 5) s) (.slice (some ⟨g, 0, none⟩) n cap) (D.set i s) ∧ But g w (put5 w g (i * 5) s) := by
  have hn := h.len
  subst hn
  obtain ⟨s1, b1⟩ := World.ownsRow.stored h (i * 5) (.float .f64 s.x)
  obtain ⟨s2, b2⟩ := World.ownsRow.stored s1 (i * 5 + 1) (.float .f64 s.v)
  obtain ⟨s3, b3⟩ := World.ownsRow.stored s2 (i * 5 + 2) (.float .f64 s.a)
  obtain ⟨s4, b4⟩ := World.ownsRow.stored s3 (i * 5 + 3) (.float .f64 s.b)
  obtain ⟨s5, b5⟩ := World.ownsRow.stored s4 (i * 5 + 4) (.float .f64 s.c)
  refine ⟨?_, ((((But.trans b1 b2).trans b3).trans b4).trans b5)⟩
  unfold SO
  rw [List.length_set, ← fl5_set5 s hi]
  exact s5
theorem SO.base {b b' : Nat} {w : World} {v : Value} {D : List Stt} (h : SO b w v D) (hb : b' ≤ b) : SO b' w v D := by
  obtain ⟨h1, h2⟩ := h
  refine ⟨h1, ?_⟩
  rcases h2 with h2 | ⟨g, cap, cur, rfl, k2, k3⟩
  · exact Or.inl h2
  · exact Or.inr ⟨g, cap, cur, rfl, Nat.le_trans hb k2, k3⟩
theorem SO.cap {b : Nat} {w : World} {p : Option Addr} {n cap : Nat} {D : List Stt} (h : SO b w (.slice p n cap) D) : n ≤ cap := by
  rcases h.2 with ⟨e, h0⟩ | ⟨g, c0, cur, e, _, _, h4, _⟩
  · simp only [Value.slice.injEq] at e; omega
  · have := h.len; simp only [Value.slice.injEq] at e; omega
/-- A row of one's own can be read. -/
theorem SO.ss {b : Nat} {w : World} {p : Option Addr} {n cap : Nat} {D : List Stt} (h : SO b w (.slice p n cap) D) (hn : n ≤ 2000000) : SS w p n cap (fun i => D.getD i Stt.zero) := by
  refine ⟨h.cap, hn, fun h0 => ?_⟩
  have hl := h.len
  obtain ⟨g, e, _, _, _⟩ := h.at (i := 0) (by omega)
  subst e
  refine ⟨g, 0, rfl, fun i hi => ?_⟩
  obtain ⟨g', e, _, _, k⟩ := h.at (i := i) (by omega)
  simp only [Option.some.injEq, Addr.mk.injEq] at e
  obtain ⟨rfl, _⟩ := e
  rw [Nat.zero_add]
  exact k
end Go.Proofs.Ytcgbmcnefolgcaa

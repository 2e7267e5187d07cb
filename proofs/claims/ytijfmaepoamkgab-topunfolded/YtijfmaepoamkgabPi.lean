/- Rows of plots of one's own; within; the first plot that is near. -/
import Derived.Test.YtijfmaepoamkgabPh
import Derived.Test.YtijfmaepoamkgabKb
namespace Go.Proofs.Ytijfmaepoamkgab
open Go.ChangeShapes Go.WideShapes Go.ChangeAt Go.RowKit Go.Fl Go.Sort Go.Shelf Go.Lib
attribute [local go_sem] run_store_float call18 run_neg fold_eq fold_ne fold_lt fold_gt abs_eq

def pL (p : Plt) : List Value := [.float .f64 p.r, .float .f64 p.s, .float .f64 p.p, .float .f64 p.b, .float .f64 p.t]
def fl5 (D : List Plt) : List Value := D.flatMap pL
theorem fl5_len : ∀ D : List Plt, (fl5 D).length = D.length * 5
  | [] => rfl
  | p :: D => by
    unfold fl5
    rw [List.flatMap_cons, List.length_append]
    have := fl5_len D
    unfold fl5 at this
    rw [this]
    simp [pL]
    omega
theorem fl5_at : ∀ {D : List Plt} {i k : Nat} (_ : i < D.length) (_ : k < 5), (fl5 D)[i * 5 + k]? = (pL (D.getD i Plt.zero))[k]?
  | p :: D, 0, k, _, hk => by
    unfold fl5
    rw [List.flatMap_cons, List.getElem?_append_left (by simp [pL]; omega)]
    simp
  | p :: D, i + 1, k, hi, hk => by
    unfold fl5
    rw [List.flatMap_cons, List.getElem?_append_right (by simp [pL]; omega)]
    have := fl5_at (D := D) (i := i) (k := k) (by simpa using hi) hk
    unfold fl5 at this
    rw [show (i + 1) * 5 + k - (pL p).length = i * 5 + k by simp [pL]; omega, this]
    simp
/-- A plot with another Power. -/
def Plt.pow (q : Plt) (x : Nat) : Plt := ⟨q.r, q.s, x, q.b, q.t⟩
theorem fl5_set : ∀ {D : List Plt} {i : Nat} (x : Nat) (_ : i < D.length), (fl5 D).set (i * 5 + 2) (.float .f64 x) = fl5 (D.set i ((D.getD i Plt.zero).pow x))
  | p :: D, 0, x, _ => by
    unfold fl5
    simp [pL, Plt.pow]
  | p :: D, i + 1, x, hi => by
    have := fl5_set (D := D) (i := i) x (by simpa using hi)
    unfold fl5 at *
    rw [List.flatMap_cons, List.set_append_right _ _ (by simp [pL]; omega), show (i + 1) * 5 + 2 - (pL p).length = i * 5 + 2 by simp [pL]; omega, this]
    simp
/-- A row of plots of one's own. -/
def PO (b : Nat) (w : World) (v : Value) (D : List Plt) : Prop := w.ownsRow b 27 5 v D.length (fl5 D)
theorem PO.up {b : Nat} {w w' : World} {v : Value} {D : List Plt} (h : PO b w v D) (hu : Up w w') : PO b w' v D := owns_up h hu
theorem PO.nil (b : Nat) (w : World) : PO b w (.slice none 0 0) [] := ⟨by simp [fl5], Or.inl ⟨rfl, rfl⟩⟩
theorem PO.form {b : Nat} {w : World} {v : Value} {D : List Plt} (h : PO b w v D) : ∃ p cap, v = .slice p D.length cap ∧ (0 < D.length → ∃ g, p = some ⟨g, 0, none⟩) := own_form h
theorem PO.at {b : Nat} {w : World} {p : Option Addr} {n cap : Nat} {D : List Plt} (h : PO b w (.slice p n cap) D) {i : Nat} (hi : i < D.length) : ∃ g, p = some ⟨g, 0, none⟩ ∧ b ≤ g ∧ g < w.heap.size ∧ P5 w g (i * 5) (D.getD i Plt.zero) := by
  rcases h.2 with ⟨h0, h1⟩ | ⟨g, cap', cur, e, h1, h2, h3, h4, h5, h6⟩
  · omega
  · simp only [Value.slice.injEq] at e
    obtain ⟨rfl, rfl, rfl⟩ := e
    refine ⟨g, rfl, h1, (Array.getElem?_eq_some_iff.1 h2).1, ?_⟩
    have c : ∀ k v, k < 5 → (pL (D.getD i Plt.zero))[k]? = some v → w.cell? ⟨g, i * 5 + k, none⟩ = some v := fun k v hk hv => by
      rw [← fl5_at hi hk, ← h6, List.getElem?_take, if_pos (by omega)] at hv
      unfold World.cell?
      simp only [h2]
      rw [Array.getElem?_toList] at hv
      simpa using hv
    exact ⟨c 0 _ (by omega) rfl, c 1 _ (by omega) rfl, c 2 _ (by omega) rfl, c 3 _ (by omega) rfl, c 4 _ (by omega) rfl⟩
theorem PO.len {b : Nat} {w : World} {p : Option Addr} {n cap : Nat} {D : List Plt} (h : PO b w (.slice p n cap) D) : D.length = n := by
  obtain ⟨p', cap', he, _⟩ := h.form
  simp only [Value.slice.injEq] at he
  exact he.2.1.symm
theorem PO.frz {b : Nat} {w : World} {g n cap : Nat} {D : List Plt} (h : PO b w (.slice (some ⟨g, 0, none⟩) n cap) D) (i : Nat) : w.frozen? ⟨g, i, none⟩ = false := by
  rcases h.2 with ⟨h0, h1⟩ | ⟨g', cap', cur, e, h1, h2, h3⟩
  · cases h0
  · simp only [Value.slice.injEq, Option.some.injEq, Addr.mk.injEq] at e
    obtain ⟨⟨rfl, _⟩, _⟩ := e
    unfold World.frozen?
    simp [h2]
theorem PO.pow {b : Nat} {w : World} {g n cap : Nat} {D : List Plt} (h : PO b w (.slice (some ⟨g, 0, none⟩) n cap) D) {i : Nat} (hi : i < D.length) (x : Nat) : PO b (w.setCell ⟨g, i * 5 + 2, none⟩ (.float .f64 x)) (.slice (some ⟨g, 0, none⟩) n cap) (D.set i ((D.getD i Plt.zero).pow x)) ∧ But g w (w.setCell ⟨g, i * 5 + 2, none⟩ (.float .f64 x)) := by
  have hn := h.len
  subst hn
  obtain ⟨s1, s2⟩ := World.ownsRow.stored h (i * 5 + 2) (.float .f64 x)
  refine ⟨?_, s2⟩
  unfold PO
  rw [List.length_set, ← fl5_set x hi]
  exact s1
theorem PO.app {b : Nat} {w : World} {v : Value} {D : List Plt} {p : Plt} (h : w.ownsRow b 27 5 v (D.length + 1) (fl5 D ++ pL p)) : PO b w v (D ++ [p]) := by
  unfold PO
  unfold fl5 at *
  rw [List.flatMap_append]
  simpa using h
theorem info28 : (Try.prog.info? 27).map (fun i => (i.zero, i.size, i.bytes)) = some (some (.agg #[.float .f64 0, .float .f64 0, .float .f64 0, .float .f64 0, .float .f64 0]), 5, 40) := by kernel_rfl
theorem five_new (w : World) (p : Plt) (t : TypeId) : ∀ (j : Nat) (u : Value), (pL p)[j]? = some u → (w.alloc (.cells #[.float .f64 p.r, .float .f64 p.s, .float .f64 p.p, .float .f64 p.b, .float .f64 p.t] t)).cell? ((⟨w.heap.size, 0, none⟩ : Addr).add j) = some u := by
  intro j u hj
  have hl : j < 5 := by
    have := (List.getElem?_eq_some_iff.1 hj).1
    simpa [pL] using this
  rcases (show j = 0 ∨ j = 1 ∨ j = 2 ∨ j = 3 ∨ j = 4 by omega) with rfl | rfl | rfl | rfl | rfl <;>
    (simp [pL] at hj; subst hj; exact World.cell?_alloc_at _ _ _ _ rfl)
theorem five_one (p : Plt) : ∀ u ∈ pL p, u.oneCell' = true := by
  intro u hu
  simp [pL] at hu
  rcases hu with rfl | rfl | rfl | rfl | rfl <;> rfl

theorem t21 (x y m : Nat) (w : World) : Calls Try.prog 21 #[.float .f64 x, .float .f64 y, .float .f64 m] w fun e w' => e = .returned (.bool (withB x y m)) ∧ ∃ k, w' = w.drewN k := by
  go_enter Try.func21, Try.ntmps21
  go_wp2_with (first
    | ((with_reducible refine upon_fl (by simp) ?_); intro r n hr)
    | (go_at_call 6; (with_reducible refine (t6 _ _).mono ?_); rintro e w' ⟨rfl, hw⟩; subst w'))
  go_ret
  refine ⟨?_, _, rfl⟩
  unfold withB
  rw [← hr.out, ← ab_abs]
  first | rfl | simp
end Go.Proofs.Ytijfmaepoamkgab

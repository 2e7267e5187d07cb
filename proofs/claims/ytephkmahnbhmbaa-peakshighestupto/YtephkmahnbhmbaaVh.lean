/- The greatest number of a map. No program. -/
import Derived.Test.YtephkmahnbhmbaaVg
namespace Go.Proofs.Ytephkmahnbhmbaa
open Go.Fl Go.Sort

/-- The greatest of a row's first k numbers and of m; of the first rows. -/
def mostRow (D : Nat → Array Nat) (b : Nat) (m : Nat) : Nat → Nat
  | 0 => m
  | k + 1 => if gtF (ab (D b)[k]!) (ab (mostRow D b m k)) = true then (D b)[k]! else mostRow D b m k
def mostAll (D : Nat → Array Nat) (G : Nat) : Nat → Nat
  | 0 => 0
  | i + 1 => mostRow D i (mostAll D G i) G
/-- What is known of it. -/
structure Most (D : Nat → Array Nat) (S : Nat → Nat → Prop) (m : Nat) : Prop where
  num : isN m = false
  pos : 0 ≤ lin m
  le : ∀ b g, S b g → isN (D b)[g]! = false → lin (D b)[g]! ≤ lin m
  is : m = 0 ∨ ∃ b g, S b g ∧ isN (D b)[g]! = false ∧ (D b)[g]! = m
theorem Most.next {D : Nat → Array Nat} {S S' : Nat → Nat → Prop} {m b k : Nat} (h : Most D S m) (hS : ∀ x y, S' x y ↔ S x y ∨ x = b ∧ y = k) : Most D S' (if gtF (ab (D b)[k]!) (ab m) = true then (D b)[k]! else m) := by
  cases hn : isN (D b)[k]! with
  | true =>
    have e : gtF (ab (D b)[k]!) (ab m) = false := by rw [ab_none hn, ab_some h.num]; rfl
    rw [e, if_neg (by simp)]
    refine ⟨h.num, h.pos, fun x y hs hx => ?_, h.is.imp_right fun ⟨x, y, h1, h2⟩ => ⟨x, y, (hS x y).2 (Or.inl h1), h2⟩⟩
    rcases (hS x y).1 hs with h1 | ⟨rfl, rfl⟩
    · exact h.le x y h1 hx
    · rw [hn] at hx; cases hx
  | false =>
    rw [ab_some hn, ab_some h.num, gtF_lin hn h.num]
    by_cases hg : lin m < lin (D b)[k]!
    · rw [if_pos (decide_eq_true hg)]
      refine ⟨hn, by have := h.pos; omega, fun x y hs hx => ?_, Or.inr ⟨b, k, (hS b k).2 (Or.inr ⟨rfl, rfl⟩), hn, rfl⟩⟩
      rcases (hS x y).1 hs with h1 | ⟨rfl, rfl⟩
      · have := h.le x y h1 hx; omega
      · exact Int.le_refl _
    · rw [if_neg (by simpa using hg)]
      refine ⟨h.num, h.pos, fun x y hs hx => ?_, h.is.imp_right fun ⟨x, y, h1, h2⟩ => ⟨x, y, (hS x y).2 (Or.inl h1), h2⟩⟩
      rcases (hS x y).1 hs with h1 | ⟨rfl, rfl⟩
      · exact h.le x y h1 hx
      · omega
theorem Most.row {D : Nat → Array Nat} {i G m : Nat} (h : Most D (fun x y => x < i ∧ y < G) m) : ∀ k, k ≤ G → Most D (fun x y => x < i ∧ y < G ∨ x = i ∧ y < k) (mostRow D i m k)
  | 0, _ => by
    have e : (fun x y => x < i ∧ y < G ∨ x = i ∧ y < 0) = fun x y => x < i ∧ y < G := by funext x y; simp
    rw [e]; exact h
  | k + 1, hk => (h.row k (by omega)).next (fun x y => by omega)
theorem Most.all (D : Nat → Array Nat) (G : Nat) : ∀ i, Most D (fun x y => x < i ∧ y < G) (mostAll D G i)
  | 0 => ⟨(show isN 0 = false by decide +kernel), (show (0 : Int) ≤ lin 0 by decide +kernel), fun b g h => by omega, Or.inl rfl⟩
  | i + 1 => by
    have e : (fun x y => x < i + 1 ∧ y < G) = fun x y => x < i ∧ y < G ∨ x = i ∧ y < G := by
      funext x y
      simp only [eq_iff_iff]
      omega
    rw [e]
    exact (Most.all D G i).row G (Nat.le_refl _)
/-- Where a cell is above 0, one of the highest is as great as any. -/
theorem most_top {D : Nat → Array Nat} {n G : Nat} (h : gtF (ab (mostAll D G n)) (ab 0) = true) : ∃ b g, b < n ∧ g < G ∧ topB D n G b g = true ∧ eqF (ab (D b)[g]!) (ab (mostAll D G n)) = true := by
  have hm := Most.all D G n
  have z : isN 0 = false := by decide +kernel
  have l0 : lin 0 = 0 := by decide +kernel
  rw [ab_some hm.num, ab_some z, gtF_lin hm.num z, l0, decide_eq_true_eq] at h
  have hex : ∃ b g, b < n ∧ g < G ∧ isN (D b)[g]! = false ∧ lin (D b)[g]! = lin (mostAll D G n) := by
    rcases hm.is with e | ⟨b, g, ⟨h1, h2⟩, h3, h4⟩
    · rw [e, l0] at h; omega
    · exact ⟨b, g, h1, h2, h3, by rw [h4]⟩
  obtain ⟨b, g, hb, hg, ht, hv⟩ := top_greatest h (fun b g hb hg hn => hm.le b g ⟨hb, hg⟩ hn) hex
  have hn := pos_num ((topB_iff hb hg).1 ht).1
  refine ⟨b, g, hb, hg, ht, ?_⟩
  rw [ab_some hn, ab_some hm.num, eqF_lin hn hm.num, hv]
  exact decide_eq_true rfl
/-- Where none is, none is told. -/
theorem most_none {D : Nat → Array Nat} {n : Nat} (h : gtF (ab (mostAll D (shortF D n) n)) (ab 0) = false) : highF D n = [] := by
  have hm := Most.all D (shortF D n) n
  have z : isN 0 = false := by decide +kernel
  have l0 : lin 0 = 0 := by decide +kernel
  rw [ab_some hm.num, ab_some z, gtF_lin hm.num z, l0, decide_eq_false_iff_not] at h
  rw [List.eq_nil_iff_forall_not_mem]
  intro s hs
  obtain ⟨b, g, hb, hg, ht, _⟩ := mem_high.1 hs
  have hp := ((topB_iff hb hg).1 ht).1
  have hn := pos_num hp
  rw [ab_some hn, ab_some z, gtF_lin hn z, l0, decide_eq_true_eq] at hp
  have := hm.le b g ⟨hb, hg⟩ hn
  omega
end Go.Proofs.Ytephkmahnbhmbaa
/- PeaksTops: what its loops reckon. -/
namespace Go.Proofs.Ytephkmahnbhmbaa
open Go.ChangeShapes Go.WideShapes Go.ChangeAt Go.RowKit Go.Fl Go.Sort
attribute [local go_sem] run_store_float call52 run_neg fold_eq fold_ne fold_lt fold_gt abs_eq
set_option maxRecDepth 20000
/-- How many gates the first i rows have. -/
def gtN (D : Nat → Array Nat) (i : Nat) : Nat := if i = 0 then 0 else shN D (i - 1)
theorem gtN_first (D : Nat → Array Nat) : gtN D 1 = (D 0).size := rfl
theorem gtN_next (D : Nat → Array Nat) {i : Nat} (h : 0 < i) : gtN D (i + 1) = min (gtN D i) (D i).size := by
  unfold gtN
  rw [if_neg (by omega), if_neg (by omega)]
  obtain ⟨j, rfl⟩ : ∃ j, i = j + 1 := ⟨i - 1, by omega⟩
  rfl
theorem gtN_all (D : Nat → Array Nat) (n : Nat) : gtN D n = shortF D n := rfl
/-- Was one as great as the greatest among the first a? -/
def fdN (L : List Spt) (m : Nat) (a : Nat) : Bool := eqF (ab m) (ab 0) || (L.take a).any fun s => eqF (ab s.2.2) (ab m)
theorem fdN_next {L : List Spt} {m a : Nat} (h : a < L.length) : fdN L m (a + 1) = (fdN L m a || eqF (ab (L[a]!).2.2) (ab m)) := by
  unfold fdN
  rw [take_snoc h, List.any_append]
  simp [Bool.or_assoc]
theorem fdN_all {D : Nat → Array Nat} {n : Nat} : fdN (highF D n) (mostAll D (shortF D n) n) (highF D n).length = true ∧ (gtF (ab (mostAll D (shortF D n) n)) (ab 0) = true ∨ (highF D n).length = 0) := by
  cases hg : gtF (ab (mostAll D (shortF D n) n)) (ab 0) with
  | true =>
    refine ⟨?_, Or.inl rfl⟩
    obtain ⟨b, g, hb, hg, ht, he⟩ := most_top hg
    unfold fdN
    rw [List.take_length, Bool.or_eq_true]
    right
    rw [List.any_eq_true]
    exact ⟨_, mem_high.2 ⟨b, g, hb, hg, ht, rfl⟩, he⟩
  | false =>
    have e := most_none hg
    refine ⟨?_, Or.inr (by rw [e]; rfl)⟩
    have hm := Most.all D (shortF D n) n
    have z : isN 0 = false := by decide +kernel
    have l0 : lin 0 = 0 := by decide +kernel
    rw [ab_some hm.num, ab_some z, gtF_lin hm.num z, l0, decide_eq_false_iff_not] at hg
    unfold fdN
    rw [ab_some hm.num, ab_some z, eqF_lin hm.num z, l0]
    have := hm.pos
    rw [decide_eq_true (by omega)]; rfl
theorem high_at {D : Nat → Array Nat} {n a : Nat} (h : a < (highF D n).length) : ∃ b g, b < n ∧ g < shortF D n ∧ topB D n (shortF D n) b g = true ∧ (highF D n)[a]! = ((b : Int), (g : Int), (D b)[g]!) := by
  have hm : (highF D n)[a]! ∈ highF D n := by rw [getElem!_pos _ a h]; exact List.getElem_mem _
  exact mem_high.1 hm
end Go.Proofs.Ytephkmahnbhmbaa

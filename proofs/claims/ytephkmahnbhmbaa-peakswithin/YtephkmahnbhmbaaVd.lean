/- The neighbours that are gone over are the neighbours. No program. -/
import Derived.Test.YtephkmahnbhmbaaPe
import Derived.Test.YtephkmahnbhmbaaPg
import Derived.Test.YtephkmahnbhmbaaNa
import Derived.Test.YtephkmahnbhmbaaVc
namespace Go.Proofs.Ytephkmahnbhmbaa
open Go.Fl Go.Sort

theorem mem_rowN {b g y fr : Int} {c : Int × Int} : ∀ {m : Nat}, c ∈ rowN b g y fr m ↔ ∃ k : Nat, k < m ∧ c = (y, fr + k) ∧ sameC y (fr + k) b g = false
  | 0 => by simp [rowN]
  | m + 1 => by
    rw [rowN, List.mem_append, mem_rowN (m := m)]
    constructor
    · rintro (⟨k, h1, h2, h3⟩ | h)
      · exact ⟨k, by omega, h2, h3⟩
      · cases hs : sameC y (fr + m) b g with
        | true => rw [hs] at h; simp at h
        | false => rw [hs] at h; exact ⟨m, by omega, by simpa using h, hs⟩
    · rintro ⟨k, h1, h2, h3⟩
      by_cases hk : k < m
      · exact Or.inl ⟨k, hk, h2, h3⟩
      · obtain rfl : k = m := by omega
        right
        rw [h3, h2]; simp
theorem mem_binsN {f : Nat → Int} {b g fr : Int} {m : Nat} {c : Int × Int} : ∀ {j : Nat}, c ∈ binsN f b g fr m j ↔ ∃ i, i < j ∧ c ∈ rowN b g (f i) fr m
  | 0 => by simp [binsN]
  | j + 1 => by
    rw [binsN, List.mem_append, mem_binsN (j := j)]
    constructor
    · rintro (⟨i, h1, h2⟩ | h)
      · exact ⟨i, by omega, h2⟩
      · exact ⟨j, by omega, h⟩
    · rintro ⟨i, h1, h2⟩
      by_cases hi : i < j
      · exact Or.inl ⟨i, hi, h2⟩
      · obtain rfl : i = j := by omega
        exact Or.inr h2
/-- Are two cells of a map of n bins neighbours? -/
def Nx (n a b x y : Int) : Prop := -1 ≤ b - y ∧ b - y ≤ 1 ∧ ¬ (a = x ∧ b = y) ∧ (-2 < a - x ∧ a - x < 2 ∨ a - x = n - 1 ∨ x - a = n - 1)
theorem mem_nbL {n last b g x y : Int} (b0 : 0 ≤ b) (b1 : b < n) (g0 : 0 ≤ g) (g1 : g ≤ last) : (x, y) ∈ nbL n last b g ↔ 0 ≤ x ∧ x < n ∧ 0 ≤ y ∧ y ≤ last ∧ Nx n x y b g := by
  unfold nbL
  rw [mem_binsN]
  unfold frG toG Nx
  constructor
  · rintro ⟨i, hi, h⟩
    obtain ⟨k, hk, hc, hs⟩ := mem_rowN.1 h
    simp only [Prod.mk.injEq] at hc
    obtain ⟨h1, h2⟩ := hc
    have hne : ¬ (binA n b i = b ∧ max g 1 - 1 + (k : Int) = g) := by
      intro he
      unfold sameC at hs
      rw [he.1, he.2] at hs
      simp at hs
    have hx : x = b ∨ 1 < n ∧ x = belowB n b ∨ 2 < n ∧ x = aboveB n b := by
      unfold binA at h1
      split at h1
      · exact Or.inl h1
      · split at h1
        · exact Or.inr (Or.inl ⟨by omega, h1⟩)
        · exact Or.inr (Or.inr ⟨by omega, h1⟩)
    rw [← h1, ← h2] at hne
    unfold belowB aboveB at hx
    have hy : y ≤ last ∧ 0 ≤ y ∧ -1 ≤ y - g ∧ y - g ≤ 1 := by omega
    rcases hx with hx | ⟨h3, hx⟩ | ⟨h3, hx⟩
    · omega
    · split at hx <;> omega
    · split at hx <;> omega
  · rintro ⟨x0, x1, y0, y1, n1, n2, n3, n4⟩
    have hi : ∃ i, i < (min n 3).toNat ∧ binA n b i = x := by
      by_cases e0 : x = b
      · exact ⟨0, by omega, by unfold binA; rw [if_pos rfl]; exact e0.symm⟩
      · by_cases e1 : x = belowB n b
        · refine ⟨1, ?_, by unfold binA; rw [if_neg (by omega), if_pos rfl]; exact e1.symm⟩
          omega
        · refine ⟨2, ?_, ?_⟩
          · unfold belowB at e1
            split at e1 <;> omega
          · unfold binA
            rw [if_neg (by omega), if_neg (by omega)]
            unfold belowB at e1
            unfold aboveB
            split at e1 <;> split <;> omega
    obtain ⟨i, hi, he⟩ := hi
    refine ⟨i, hi, mem_rowN.2 ⟨(y - (max g 1 - 1)).toNat, by omega, ?_, ?_⟩⟩
    · rw [he]
      simp only [Prod.mk.injEq, true_and]
      omega
    · rw [he]
      unfold sameC
      rw [Bool.and_eq_false_iff]
      simp only [decide_eq_false_iff_not]
      omega
end Go.Proofs.Ytephkmahnbhmbaa
/- What the list of the highest cells holds. No program. -/
namespace Go.Proofs.Ytephkmahnbhmbaa
open Go.Fl Go.Sort

theorem mem_topRow {D : Nat → Array Nat} {n G b : Nat} {s : Spt} : ∀ {k : Nat}, s ∈ topRow D n G b k ↔ ∃ g, g < k ∧ topB D n G b g = true ∧ s = ((b : Int), (g : Int), (D b)[g]!)
  | 0 => by simp [topRow]
  | k + 1 => by
    rw [topRow, List.mem_append, mem_topRow (k := k)]
    constructor
    · rintro (⟨g, h1, h2, h3⟩ | h)
      · exact ⟨g, by omega, h2, h3⟩
      · cases ht : topB D n G b k with
        | false => rw [ht] at h; simp at h
        | true => rw [ht] at h; exact ⟨k, by omega, ht, by simpa using h⟩
    · rintro ⟨g, h1, h2, h3⟩
      by_cases hg : g < k
      · exact Or.inl ⟨g, hg, h2, h3⟩
      · obtain rfl : g = k := by omega
        right
        rw [h2, h3]; simp
theorem mem_topAll {D : Nat → Array Nat} {n G : Nat} {s : Spt} : ∀ {i : Nat}, s ∈ topAll D n G i ↔ ∃ b, b < i ∧ s ∈ topRow D n G b G
  | 0 => by simp [topAll]
  | i + 1 => by
    rw [topAll, List.mem_append, mem_topAll (i := i)]
    constructor
    · rintro (⟨b, h1, h2⟩ | h)
      · exact ⟨b, by omega, h2⟩
      · exact ⟨i, by omega, h⟩
    · rintro ⟨b, h1, h2⟩
      by_cases hb : b < i
      · exact Or.inl ⟨b, hb, h2⟩
      · obtain rfl : b = i := by omega
        exact Or.inr h2
/-- A spot is told if its cell is highest. -/
theorem mem_high {D : Nat → Array Nat} {n : Nat} {s : Spt} : s ∈ highF D n ↔ ∃ b g, b < n ∧ g < shortF D n ∧ topB D n (shortF D n) b g = true ∧ s = ((b : Int), (g : Int), (D b)[g]!) := by
  unfold highF
  rw [mem_topAll]
  constructor
  · rintro ⟨b, hb, h⟩
    obtain ⟨g, h1, h2, h3⟩ := mem_topRow.1 h
    exact ⟨b, g, hb, h1, h2, h3⟩
  · rintro ⟨b, g, hb, h1, h2, h3⟩
    exact ⟨b, hb, mem_topRow.2 ⟨g, h1, h2, h3⟩⟩
/-- Ahead. -/
def Ahd (s t : Spt) : Prop := s.1 < t.1 ∨ s.1 = t.1 ∧ s.2.1 < t.2.1
theorem topRow_sorted (D : Nat → Array Nat) (n G b : Nat) : ∀ k, (topRow D n G b k).Pairwise Ahd
  | 0 => List.Pairwise.nil
  | k + 1 => by
    rw [topRow, List.pairwise_append]
    refine ⟨topRow_sorted D n G b k, ?_, fun s hs t ht => ?_⟩
    · split
      · exact List.pairwise_singleton _ _
      · exact List.Pairwise.nil
    · obtain ⟨g, h1, _, rfl⟩ := mem_topRow.1 hs
      split at ht
      · obtain rfl : t = _ := by simpa using ht
        right
        exact ⟨rfl, by show (g : Int) < (k : Int); omega⟩
      · simp at ht
theorem topAll_sorted (D : Nat → Array Nat) (n G : Nat) : ∀ i, (topAll D n G i).Pairwise Ahd
  | 0 => List.Pairwise.nil
  | i + 1 => by
    rw [topAll, List.pairwise_append]
    refine ⟨topAll_sorted D n G i, topRow_sorted D n G i G, fun s hs t ht => ?_⟩
    obtain ⟨b, hb, h⟩ := mem_topAll.1 hs
    obtain ⟨g, _, _, rfl⟩ := mem_topRow.1 h
    obtain ⟨g', _, _, rfl⟩ := mem_topRow.1 ht
    left
    show (b : Int) < (i : Int)
    omega
/-- They come by rising bin, then gate. -/
theorem high_sorted (D : Nat → Array Nat) (n : Nat) : (highF D n).Pairwise Ahd := topAll_sorted D n _ n
end Go.Proofs.Ytephkmahnbhmbaa
/- Of the highest cells no two are neighbours. No program. -/
namespace Go.Proofs.Ytephkmahnbhmbaa
open Go.Fl Go.Sort

theorem pos_num {v : Nat} (h : gtF (ab v) (ab 0) = true) : isN v = false := by
  cases e : isN v with
  | false => rfl
  | true => rw [ab_none e] at h; cases h
/-- What it is to be highest. -/
theorem topB_iff {D : Nat → Array Nat} {n G b g : Nat} (hb : b < n) (hg : g < G) : topB D n G b g = true ↔ gtF (ab (D b)[g]!) (ab 0) = true ∧ ∀ x y : Nat, x < n → y < G → Nx n x y b g → btF (D x)[y]! (D b)[g]! x y b g = false := by
  unfold topB outF
  rw [Bool.and_eq_true, Bool.not_eq_true', List.any_eq_false]
  refine and_congr_right fun _ => ⟨fun h x y hx hy hN => ?_, fun h c hc => ?_⟩
  · have := h ((x : Int), (y : Int)) ((mem_nbL (by omega) (by omega) (by omega) (by omega)).2 ⟨by omega, by omega, by omega, by omega, hN⟩)
    simpa [btC] using this
  · obtain ⟨c1, c2⟩ := c
    obtain ⟨x0, x1, y0, y1, hN⟩ := (mem_nbL (n := n) (last := (G : Int) - 1) (b := b) (g := g) (by omega) (by omega) (by omega) (by omega)).1 hc
    obtain ⟨x, rfl⟩ := Int.eq_ofNat_of_zero_le x0
    obtain ⟨y, rfl⟩ := Int.eq_ofNat_of_zero_le y0
    have := h x y (by omega) (by omega) hN
    simpa [btC] using this
theorem Nx.symm {n a b x y : Int} (h : Nx n a b x y) : Nx n x y a b := by unfold Nx at *; omega
theorem ordC_lt {x y b g : Int} : ordC x y b g < 0 ↔ x < b ∨ x = b ∧ y < g := by
  unfold ordC orI cmpI
  (repeat' split) <;> omega
theorem btF_lin {d pw : Nat} {x y b g : Int} (hd : isN d = false) (hp : isN pw = false) : btF d pw x y b g = true ↔ lin pw < lin d ∨ lin d = lin pw ∧ (x < b ∨ x = b ∧ y < g) := by
  unfold btF
  rw [ab_some hd, ab_some hp, gtF_lin hd hp, eqF_lin hd hp]
  simp only [Bool.or_eq_true, Bool.and_eq_true, decide_eq_true_eq, ordC_lt]
/-- No two of the highest are neighbours. -/
theorem top_apart {D : Nat → Array Nat} {n G b g x y : Nat} (hb : b < n) (hg : g < G) (hx : x < n) (hy : y < G) (h1 : topB D n G b g = true) (h2 : topB D n G x y = true) : ¬ Nx n x y b g := by
  intro hN
  obtain ⟨p1, q1⟩ := (topB_iff hb hg).1 h1
  obtain ⟨p2, q2⟩ := (topB_iff hx hy).1 h2
  have r1 := q1 x y hx hy hN
  have r2 := q2 b g hb hg hN.symm
  have n1 := pos_num p1
  have n2 := pos_num p2
  rw [← Bool.not_eq_true, btF_lin n2 n1] at r1
  rw [← Bool.not_eq_true, btF_lin n1 n2] at r2
  unfold Nx at hN
  omega
theorem least {P : Nat → Prop} (h : ∃ k, P k) : ∃ k, P k ∧ ∀ j, j < k → ¬ P j := by
  obtain ⟨k, hk⟩ := h
  induction k using Nat.strongRecOn with
  | ind k ih =>
    by_cases hj : ∃ j, j < k ∧ P j
    · obtain ⟨j, h1, h2⟩ := hj
      exact ih j h1 h2
    · exact ⟨k, hk, fun j h1 h2 => hj ⟨j, h1, h2⟩⟩
/-- The first of the greatest cells is highest. -/
theorem top_greatest {D : Nat → Array Nat} {n G m : Nat} (h0 : 0 < lin m) (hle : ∀ b g, b < n → g < G → isN (D b)[g]! = false → lin (D b)[g]! ≤ lin m) (hex : ∃ b g, b < n ∧ g < G ∧ isN (D b)[g]! = false ∧ lin (D b)[g]! = lin m) : ∃ b g, b < n ∧ g < G ∧ topB D n G b g = true ∧ lin (D b)[g]! = lin m := by
  have hP : ∃ k, ∃ b g, k = b * G + g ∧ b < n ∧ g < G ∧ isN (D b)[g]! = false ∧ lin (D b)[g]! = lin m := by
    obtain ⟨b, g, h⟩ := hex
    exact ⟨_, b, g, rfl, h⟩
  obtain ⟨k, ⟨b, g, rfl, hb, hg, hn, hv⟩, hmin⟩ := least hP
  refine ⟨b, g, hb, hg, (topB_iff hb hg).2 ⟨?_, fun x y hx hy hN => ?_⟩, hv⟩
  · have z : isN 0 = false := by decide +kernel
    have l0 : lin 0 = 0 := by decide +kernel
    rw [ab_some hn, ab_some z, gtF_lin hn z, l0, hv]
    exact decide_eq_true h0
  · cases hd : isN (D x)[y]! with
    | true =>
      unfold btF
      rw [ab_none hd, ab_some hn]; rfl
    | false =>
      rw [← Bool.not_eq_true, btF_lin hd hn]
      rintro (h | ⟨h1, h2⟩)
      · have := hle x y hx hy hd
        omega
      · refine hmin (x * G + y) ?_ ⟨x, y, rfl, hx, hy, hd, by omega⟩
        rcases h2 with h2 | ⟨h2, h3⟩
        · have e : (x + 1) * G ≤ b * G := Nat.mul_le_mul_right _ (by omega)
          rw [Nat.add_mul] at e
          omega
        · have : x = b := by omega
          subst this
          omega
end Go.Proofs.Ytephkmahnbhmbaa
/- The two ways of saying 'neighbours' are one. -/
namespace Go.Proofs.Ytephkmahnbhmbaa
open Go.Fl Go.Sort

theorem tmod_round {n d : Int} (h1 : -n < d) (h2 : d < n) : (d.tmod n + n).tmod n = if 0 ≤ d then d else d + n := by
  split
  · rename_i h
    rw [Int.tmod_eq_of_lt h h2, Int.tmod_eq_emod_of_nonneg (by omega), Int.add_emod_right, Int.emod_eq_of_lt h h2]
  · rename_i h
    have e : d.tmod n = d := by
      have h3 := Int.neg_tmod (-d) n
      have h4 := Int.tmod_eq_of_lt (a := -d) (b := n) (by omega) (by omega)
      rw [Int.neg_neg] at h3
      omega
    rw [e, Int.tmod_eq_of_lt (by omega) (by omega)]
theorem roundB_iff {n a b x y : Int} (a0 : 0 ≤ a) (a1 : a < n) (x0 : 0 ≤ x) (x1 : x < n) : roundB n a b x y = true ↔ Nx n a b x y := by
  unfold roundB Nx
  rw [tmod_round (by omega) (by omega)]
  simp only [Bool.or_eq_true, Bool.and_eq_true, decide_eq_true_eq]
  split <;> omega
theorem nextB_iff {n a b x y : Int} (hn : 0 < n) : nextB n a b x y = true ↔ Nx n a b x y := by
  unfold nextB Nx
  simp only [Bool.or_eq_true, Bool.and_eq_true, decide_eq_true_eq, Bool.not_eq_true', Bool.and_eq_false_iff, decide_eq_false_iff_not]
  omega
theorem ahB_iff {a b x y : Int} : ahB a b x y = true ↔ a < x ∨ a = x ∧ b < y := by
  unfold ahB
  simp only [Bool.or_eq_true, Bool.and_eq_true, decide_eq_true_eq]
/-- What stands in the way of a cell's being highest, told in either way. -/
theorem beat_same (d pw : Nat) (x y b g : Int) : beatB x y (ab d) b g (ab pw) = btF d pw x y b g := by
  unfold beatB btF
  congr 2
  rw [Bool.eq_iff_iff, ahB_iff, decide_eq_true_eq, ordC_lt]
end Go.Proofs.Ytephkmahnbhmbaa
/- The document's Highest: the cells about a cell. -/
namespace Go.Proofs.Ytephkmahnbhmbaa
open Go.ChangeShapes Go.WideShapes Go.ChangeAt Go.RowKit Go.Fl Go.Sort
attribute [local go_sem] run_store_float call52 run_neg fold_eq fold_ne fold_lt fold_gt abs_eq
set_option maxRecDepth 20000
/-- The bin that stands i - 1 on, round. -/
def arB (n b i : Nat) : Nat := (b + i + n - 1) % n
def arC (D : Nat → Array Nat) (n G b g i k : Nat) : List Spt := if 1 ≤ g + k ∧ g + k - 1 < G then [((arB n b i : Int), ((g + k - 1 : Nat) : Int), (D (arB n b i))[g + k - 1]!)] else []
def arRow (D : Nat → Array Nat) (n G b g i : Nat) : Nat → List Spt
  | 0 => []
  | k + 1 => arRow D n G b g i k ++ arC D n G b g i k
def arAll (D : Nat → Array Nat) (n G b g : Nat) : Nat → List Spt
  | 0 => []
  | i + 1 => arAll D n G b g i ++ arRow D n G b g i 3
def arF (D : Nat → Array Nat) (n G b g : Nat) : List Spt := arAll D n G b g 3
theorem arC_len (D : Nat → Array Nat) (n G b g i k : Nat) : (arC D n G b g i k).length ≤ 1 := by unfold arC; split <;> simp
theorem arRow_len (D : Nat → Array Nat) (n G b g i : Nat) : ∀ k, (arRow D n G b g i k).length ≤ k
  | 0 => Nat.le_refl _
  | k + 1 => by
    have h1 := arRow_len D n G b g i k
    have h2 := arC_len D n G b g i k
    rw [arRow, List.length_append]; omega
theorem arAll_len (D : Nat → Array Nat) (n G b g : Nat) : ∀ i, (arAll D n G b g i).length ≤ i * 3
  | 0 => Nat.le_refl _
  | i + 1 => by
    have h1 := arAll_len D n G b g i
    have h2 := arRow_len D n G b g i 3
    rw [arAll, List.length_append]; omega
theorem arB_lt {n b i : Nat} (h : b < n) : arB n b i < n := Nat.mod_lt _ (by omega)
theorem arB_int {n b i : Nat} (h : b < n) : ((b : Int) + ((i : Int) - 1) + (n : Int)).tmod (n : Int) = (arB n b i : Int) := by
  have e : (b : Int) + ((i : Int) - 1) + (n : Int) = ((b + i + n - 1 : Nat) : Int) := by omega
  rw [e]
  unfold arB
  rw [Int.ofNat_tmod]
set_option maxHeartbeats 4000000 in
theorem t30 {w : World} {p : Option Addr} {n cap G b g : Nat} {D : Nat → Array Nat} (h : MV w p n cap D) (hb : b < n) (hg : g < G) (hG : ∀ i, i < n → G ≤ (D i).size) : Calls Try.prog 30 #[.slice p n cap, .int .i64 b, .int .i64 g, .int .i64 G] w (SR w (arF D n G b g)) := by
  have H : Hid (MV w p n cap D) := h
  obtain ⟨i0, hi0, hz0, hz1, hz2⟩ := info_parts info29
  have hfew := h.few
  have hG60 : G ≤ 1152921504606846976 := Nat.le_trans (hG 0 (by omega)) (h.small 0 (by omega))
  have HGl : Hid (∀ i, i < n → G ≤ (D i).size) := hG
  have hn0 : ((n : Int) == 0) = false := by rw [beq_eq_false_iff_ne]; omega
  have hn1 : ¬ (n : Int) = 0 := by omega
  clear h hG
  go_enter Try.func30, Try.ntmps30
  go_wp2
  go_loopw [9, 10, 11, 12, 13] (fun v9 v10 _ _ _ wr => ∃ (i M c : Nat) (z : Int) (q : Option Addr) (L : List Spt), v9 = .slice q M c ∧ v10 = .int .i64 z ∧ (-1 ≤ z ∧ z ≤ 2) ∧ Hid (z = (i : Int) - 1) ∧ M ≤ 9 ∧ Hid (L.length = M) ∧ Hid (L = arAll D n G b g i) ∧ Hid (SO w.heap.size wr (.slice q M c) L) ∧ Hid (Up w wr)) (fun _ v10 _ _ _ _ => (2 - intOf v10).toNat)
  case atStart => exact ⟨0, 0, 0, -1, none, [], rfl, rfl, by omega, by show (-1 : Int) = ((0 : Nat) : Int) - 1; omega, by omega, rfl, rfl, SO.nil _ _, Up.refl _⟩
  case round =>
    obtain ⟨i, M, c, z, q, L, rfl, rfl, ⟨hz1', hz2'⟩, HZ, hM, HM, HL, HO, HU⟩ := hrel
    rename World => W
    by_cases hlt : z ≤ 1
    · obtain ⟨x, hx⟩ : ∃ x, arB n b i = x := ⟨_, rfl⟩
      have HX : Hid (arB n b i = x) := hx
      have hxn : x < n := by rw [← hx]; exact arB_lt hb
      have ex : ((b : Int) + z + (n : Int)).tmod (n : Int) = (x : Int) := by rw [HZ.out, arB_int hb, hx]
      clear hx
      go_wp2
      go_loopw [9, 11, 12, 13] (fun v9 v11 _ _ wr => ∃ (k M c : Nat) (u : Int) (q : Option Addr) (L : List Spt), v9 = .slice q M c ∧ v11 = .int .i64 u ∧ (-1 ≤ u ∧ u ≤ 2) ∧ Hid (u = (k : Int) - 1) ∧ M ≤ 9 ∧ Hid (L.length = M) ∧ Hid (L = arAll D n G b g i ++ arRow D n G b g i k) ∧ Hid (SO w.heap.size wr (.slice q M c) L) ∧ Hid (Up w wr)) (fun _ v11 _ _ _ => (2 - intOf v11).toNat)
      case atStart => exact ⟨0, M, c, -1, q, L, rfl, rfl, by omega, by show (-1 : Int) = ((0 : Nat) : Int) - 1; omega, hM, HM, by show L = _; rw [HL.out]; simp [arRow], HO, HU⟩
      case round =>
        clear HL HO HU HM hM
        obtain ⟨k, M, c, u, q, L, rfl, rfl, ⟨hu1, hu2⟩, HK, hM, HM, HL, HO, HU⟩ := hrel
        rename World => W2
        by_cases hku : u ≤ 1
        · obtain ⟨yi, hyi⟩ : ∃ yi, (g : Int) + u = yi := ⟨_, rfl⟩
          have HYI : Hid ((g : Int) + u = yi) := hyi
          have by1 : -1 ≤ yi := by omega
          have by2 : yi ≤ 1152921504606846976 := by omega
          have hMl : M + 1 ≤ 9 := by
            have l1 := arAll_len D n G b g i
            have l2 := arRow_len D n G b g i k
            have l3 := HM.out
            rw [HL.out, List.length_append] at l3
            have := HZ.out
            have := HK.out
            omega
          by_cases hin : 0 ≤ yi ∧ yi < (G : Int)
          · obtain ⟨hy0, hy1⟩ := hin
            obtain ⟨y, rfl⟩ := Int.eq_ofNat_of_zero_le hy0
            have hyG : y < G := by omega
            obtain ⟨mb, mo, hpe, hr⟩ := H.out.rd (by omega)
            subst hpe
            obtain ⟨q1, c1, k1, k2⟩ := hr x hxn
            have hzG := HGl.out x hxn
            have hsm := H.out.small x hxn
            obtain ⟨b2, o2, hpe, hr2⟩ := k2.rd (by omega)
            subst hpe
            have cy := cell_up (hr2 y (by omega)) HU.out
            have cr := cell_up k1 HU.out
            obtain ⟨zz, hzz⟩ : ∃ zz, (D x).size = zz := ⟨_, rfl⟩
            rw [hzz] at cr hzG hsm
            obtain ⟨v, hv⟩ : ∃ v, (D x)[y]! = v := ⟨_, rfl⟩
            rw [hv] at cy
            have HAC : Hid (arC D n G b g i k = [((x : Int), (y : Int), v)]) := by
              have e1 := HYI.out
              have e2 := HK.out
              have e3 : g + k - 1 = y := by omega
              show _ = _
              unfold arC
              rw [if_pos (by omega), HX.out, e3, hv]
            clear hr k1 k2 hr2 hzz hv
            have t1 : (x : Int) < (n : Int) := by omega
            have t2 : (y : Int) < (zz : Int) := by omega
            have sz : w.heap.size ≤ W2.heap.size := RowKit.Below.size HU.out
            have hown : W2.ownsRow w.heap.size 29 3 (.slice q M c) M (L.flatMap spC) := by have := HO.out; unfold SO at this; rw [HM.out] at this; exact this
            go_wp2_with (at_builtin; refine wpList_append_own _ rfl _ _ 25 rfl w.heap.size 29 i0 (.agg #[.int .i64 0, .int .i64 0, .float .f64 0]) 3 24 Try.underlying25 hi0 hz0 hz1 hz2 rfl (by decide) _ _ _ rfl (hown.alloc _) ⟨W2.heap.size, 0, none⟩ 1 1 [.int .i64 x, .int .i64 y, .float .f64 v] rfl rfl (three_new _ _ _ _ _) (three_one rfl rfl rfl) (by unfold maxLen; omega) (by omega) (by simp; omega) ?_)
            intro v' w6 hown' hgrow _
            have R3 := so_push (s := (x, y, v)) (Nat.le_refl _) HM.out hown HU.out hown' hgrow
            have U6 : Hid (Up w w6) := R3.2
            obtain ⟨p', c', hv', _⟩ := own_form hown'
            subst hv'
            have S6 : Hid (SO w.heap.size w6 (.slice p' (M + 1) c') (L ++ [((x : Int), (y : Int), v)])) := R3.1
            clear R3 hown' hgrow hown HO
            go_wp2
            go_roundw
            case rel =>
              refine ⟨k + 1, M + 1, c', u + 1, p', L ++ [((x : Int), (y : Int), v)], rfl, by go_num, by omega, by show u + 1 = _; rw [HK.out]; omega, hMl, by show _ = _; rw [List.length_append, HM.out]; rfl, ?_, S6, U6⟩
              show _ = _
              rw [HL.out, arRow, HAC.out, List.append_assoc]
            case measure => simp [intOf]; omega
          · have HAC : Hid (arC D n G b g i k = []) := by
              have e1 := HYI.out
              have e2 := HK.out
              show _ = _
              unfold arC
              rw [if_neg (by omega)]
            by_cases hneg : 0 ≤ yi
            · have hge : ¬ yi < (G : Int) := by omega
              go_wp2
              go_roundw
              case rel => exact ⟨k + 1, M, c, u + 1, q, L, rfl, by go_num, by omega, by show u + 1 = _; rw [HK.out]; omega, hM, HM, by show _ = _; rw [HL.out, arRow, HAC.out, List.append_nil], HO, HU⟩
              case measure => simp [intOf]; omega
            · go_wp2
              go_roundw
              case rel => exact ⟨k + 1, M, c, u + 1, q, L, rfl, by go_num, by omega, by show u + 1 = _; rw [HK.out]; omega, hM, HM, by show _ = _; rw [HL.out, arRow, HAC.out, List.append_nil], HO, HU⟩
              case measure => simp [intOf]; omega
        · go_wp2
          go_roundw
          case rel =>
            have hk3 : k = 3 := by have := HK.out; omega
            exact ⟨i + 1, M, c, z + 1, q, L, rfl, by go_num, by omega, by show z + 1 = _; rw [HZ.out]; omega, hM, HM, by show _ = _; rw [HL.out, arAll, hk3], HO, HU⟩
          case measure => simp [intOf]; omega
    · go_wp2
      go_ret
      have hi3 : i = 3 := by have := HZ.out; omega
      have e : arF D n G b g = L := by unfold arF; rw [HL.out, hi3]
      rw [e]
      exact ⟨q, c, by rw [HM.out]; rfl, by rw [HM.out]; exact HO, HU⟩
end Go.Proofs.Ytephkmahnbhmbaa

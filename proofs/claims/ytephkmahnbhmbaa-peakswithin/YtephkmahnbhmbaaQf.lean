/- The spots that count: of each cell the first, in order. In plain words. -/
import Derived.Test.YtephkmahnbhmbaaQe
namespace Go.Proofs.Ytephkmahnbhmbaa
open Go.ChangeShapes Go.WideShapes Go.ChangeAt Go.RowKit Go.Fl Go.Sort Go.Shelf Go.Lib

/-- A spot that is the first of its cell in a list. -/
def FirstIn (L : List Spt) (s : Spt) : Prop := ∃ pre post, L = pre ++ s :: post ∧ ∀ t ∈ pre, cellK t ≠ cellK s
/-- C has the first spot of each cell of L, in order. -/
def CntOf (L C : List Spt) : Prop := C.Pairwise (fun s t => cellK s < cellK t) ∧ ∀ s, s ∈ C ↔ FirstIn L s
theorem rising_uniq {f : Spt → Nat} : ∀ {C C' : List Spt}, C.Pairwise (fun s t => f s < f t) → C'.Pairwise (fun s t => f s < f t) → (∀ s, s ∈ C ↔ s ∈ C') → C = C'
  | [], [], _, _, _ => rfl
  | [], b :: l, _, _, h => by have := (h b).2 (by simp); cases this
  | a :: l, [], _, _, h => by have := (h a).1 (by simp); cases this
  | a :: l, b :: l', h1, h2, h => by
    obtain ⟨p1, p2⟩ := List.pairwise_cons.1 h1
    obtain ⟨q1, q2⟩ := List.pairwise_cons.1 h2
    have hab : a = b := by
      have ha := (h a).1 (by simp)
      have hb := (h b).2 (by simp)
      rcases List.mem_cons.1 ha with e | e
      · exact e
      · rcases List.mem_cons.1 hb with e' | e'
        · exact e'.symm
        · have := q1 a e
          have := p1 b e'
          omega
    subst hab
    have hl : l = l' := rising_uniq p2 q2 (fun s => by
      constructor
      · intro hs
        rcases List.mem_cons.1 ((h s).1 (List.mem_cons_of_mem _ hs)) with e | e
        · subst e; have := p1 s hs; omega
        · exact e
      · intro hs
        rcases List.mem_cons.1 ((h s).2 (List.mem_cons_of_mem _ hs)) with e | e
        · subst e; have := q1 s hs; omega
        · exact e)
    rw [hl]
theorem CntOf.uniq {L C C' : List Spt} (h : CntOf L C) (h' : CntOf L C') : C = C' :=
  rising_uniq h.1 h'.1 (fun s => (h.2 s).trans (h'.2 s).symm)
/-- One more spot. -/
def insC (s : Spt) : List Spt → List Spt
  | [] => [s]
  | t :: r => if cellK s < cellK t then s :: t :: r else if cellK s = cellK t then t :: r else t :: insC s r
def cntF (L : List Spt) : List Spt := L.foldl (fun acc s => insC s acc) []
theorem insC_mem (s : Spt) : ∀ C : List Spt, C.Pairwise (fun s t => cellK s < cellK t) → ∀ u, u ∈ insC s C ↔ u ∈ C ∨ (u = s ∧ ∀ t ∈ C, cellK t ≠ cellK s)
  | [], _, u => by simp [insC]
  | t :: r, h, u => by
    obtain ⟨p1, p2⟩ := List.pairwise_cons.1 h
    unfold insC
    split
    · rename_i q
      constructor
      · intro hu
        rcases List.mem_cons.1 hu with e | e
        · refine Or.inr ⟨e, fun x hx => ?_⟩
          rcases List.mem_cons.1 hx with e' | e'
          · subst e'; omega
          · have := p1 x e'; omega
        · exact Or.inl e
      · rintro (e | ⟨e, _⟩)
        · exact List.mem_cons_of_mem _ e
        · subst e; simp
    · split
      · rename_i q1 q2
        constructor
        · exact fun hu => Or.inl hu
        · rintro (e | ⟨e, k⟩)
          · exact e
          · exact absurd q2.symm (k t (by simp))
      · rename_i q1 q2
        rw [List.mem_cons, List.mem_cons, insC_mem s r p2 u]
        constructor
        · rintro (e | e | ⟨e, k⟩)
          · exact Or.inl (Or.inl e)
          · exact Or.inl (Or.inr e)
          · refine Or.inr ⟨e, fun x hx => ?_⟩
            rcases List.mem_cons.1 hx with e' | e'
            · subst e'; exact fun c => q2 c.symm
            · exact k x e'
        · rintro ((e | e) | ⟨e, k⟩)
          · exact Or.inl e
          · exact Or.inr (Or.inl e)
          · exact Or.inr (Or.inr ⟨e, fun x hx => k x (List.mem_cons_of_mem _ hx)⟩)
theorem insC_rise (s : Spt) : ∀ C : List Spt, C.Pairwise (fun s t => cellK s < cellK t) → (insC s C).Pairwise (fun s t => cellK s < cellK t)
  | [], _ => by simp [insC]
  | t :: r, h => by
    obtain ⟨p1, p2⟩ := List.pairwise_cons.1 h
    unfold insC
    split
    · rename_i q
      refine List.pairwise_cons.2 ⟨fun x hx => ?_, h⟩
      rcases List.mem_cons.1 hx with e | e
      · subst e; exact q
      · have := p1 x e; omega
    · split
      · exact h
      · rename_i q1 q2
        refine List.pairwise_cons.2 ⟨fun x hx => ?_, insC_rise s r p2⟩
        rcases (insC_mem s r p2 x).1 hx with e | ⟨e, _⟩
        · exact p1 x e
        · subst e; omega
theorem firstIn_snoc {L : List Spt} {s u : Spt} : FirstIn (L ++ [s]) u ↔ FirstIn L u ∨ (u = s ∧ ∀ t ∈ L, cellK t ≠ cellK s) := by
  constructor
  · rintro ⟨pre, post, e, h⟩
    rcases List.eq_nil_or_concat post with rfl | ⟨post', x, rfl⟩
    · have := List.append_inj' e rfl
      obtain ⟨rfl, e2⟩ := this
      simp only [List.cons.injEq, and_true] at e2
      subst e2
      exact Or.inr ⟨rfl, h⟩
    · have e' : L ++ [s] = (pre ++ u :: post') ++ [x] := by rw [e]; simp
      have := List.append_inj' e' rfl
      exact Or.inl ⟨pre, post', this.1, h⟩
  · rintro (⟨pre, post, e, h⟩ | ⟨rfl, h⟩)
    · exact ⟨pre, post ++ [s], by rw [e]; simp, h⟩
    · exact ⟨L, [], rfl, h⟩
theorem first_of_mem : ∀ {L : List Spt} {t : Spt}, t ∈ L → ∃ u, FirstIn L u ∧ cellK u = cellK t
  | a :: l, t, h => by
    by_cases q : cellK a = cellK t
    · exact ⟨a, ⟨[], l, rfl, fun x hx => by cases hx⟩, q⟩
    · rcases List.mem_cons.1 h with e | e
      · subst e; exact absurd rfl q
      · obtain ⟨u, ⟨pre, post, e1, e2⟩, e3⟩ := first_of_mem e
        refine ⟨u, ⟨a :: pre, post, by rw [e1]; rfl, fun x hx => ?_⟩, e3⟩
        rcases List.mem_cons.1 hx with e' | e'
        · subst e'; rw [e3]; exact q
        · exact e2 x e'
theorem FirstIn.mem {L : List Spt} {s : Spt} (h : FirstIn L s) : s ∈ L := by
  obtain ⟨pre, post, e, _⟩ := h
  rw [e]; simp
theorem CntOf.snoc {L C : List Spt} (h : CntOf L C) (s : Spt) : CntOf (L ++ [s]) (insC s C) := by
  refine ⟨insC_rise s C h.1, fun u => ?_⟩
  rw [insC_mem s C h.1 u, firstIn_snoc, h.2 u]
  constructor
  · rintro (e | ⟨e, k⟩)
    · exact Or.inl e
    · refine Or.inr ⟨e, fun t ht => ?_⟩
      obtain ⟨v, hv, e2⟩ := first_of_mem ht
      rw [← e2]
      exact k v ((h.2 v).2 hv)
  · rintro (e | ⟨e, k⟩)
    · exact Or.inl e
    · exact Or.inr ⟨e, fun t ht => k t ((h.2 t).1 ht).mem⟩
theorem cnt_all : ∀ (M L C : List Spt), CntOf L C → CntOf (L ++ M) (M.foldl (fun acc s => insC s acc) C)
  | [], L, C, h => by rw [List.append_nil]; exact h
  | s :: M, L, C, h => by
    have := cnt_all M (L ++ [s]) (insC s C) (h.snoc s)
    rw [List.append_assoc] at this
    exact this
theorem cntF_of (L : List Spt) : CntOf L (cntF L) := cnt_all L [] [] ⟨List.Pairwise.nil, fun s => by
  constructor
  · intro h; cases h
  · rintro ⟨pre, post, e, _⟩
    cases pre <;> cases e⟩
/-- What is kept of a row, by places. -/
theorem cpt_mem {d : Array Spt} {n : Nat} {s : Spt} : s ∈ cptN d n ↔ ∃ i, i < n ∧ d[i]! = s ∧ (i = 0 ∨ sameS d[i]! d[i - 1]! = false) := by
  induction n with
  | zero => simp [cptN]
  | succ n ih =>
    rw [cptN, List.mem_append, ih]
    constructor
    · rintro (⟨i, h1, h2, h3⟩ | h)
      · exact ⟨i, by omega, h2, h3⟩
      · by_cases q : n = 0 ∨ sameS d[n]! d[n - 1]! = false
        · rw [if_pos q] at h
          simp at h
          exact ⟨n, by omega, h.symm, q⟩
        · rw [if_neg q] at h; cases h
    · rintro ⟨i, h1, h2, h3⟩
      rcases Nat.lt_or_ge i n with q | q
      · exact Or.inl ⟨i, q, h2, h3⟩
      · obtain rfl : i = n := by omega
        right
        rw [if_pos h3, h2]; simp
/-- Cells that do not fall, of a row in order. -/
theorem cpt_rise {d : Array Spt} {n : Nat} (hm : ∀ i j, i < j → j < n → cellK d[i]! ≤ cellK d[j]!) (hs : ∀ i j, i < n → j < n → (sameS d[i]! d[j]! = true ↔ cellK d[i]! = cellK d[j]!)) : (cptN d n).Pairwise (fun s t => cellK s < cellK t) := by
  induction n with
  | zero => exact List.Pairwise.nil
  | succ n ih =>
    have ih := ih (fun i j h1 h2 => hm i j h1 (by omega)) (fun i j h1 h2 => hs i j (by omega) (by omega))
    rw [cptN]
    by_cases q : n = 0 ∨ sameS d[n]! d[n - 1]! = false
    · rw [if_pos q]
      refine List.pairwise_append.2 ⟨ih, by simp, fun a ha b hb => ?_⟩
      simp at hb
      subst hb
      obtain ⟨i, h1, h2, _⟩ := cpt_mem.1 ha
      rcases q with q | q
      · omega
      · have e1 : ¬ cellK d[n]! = cellK d[n - 1]! := fun e => by
          rw [(hs n (n - 1) (by omega) (by omega)).2 e] at q; cases q
        have e2 := hm (n - 1) n (by omega) (by omega)
        rw [← h2]
        rcases Nat.lt_or_ge i (n - 1) with r | r
        · have := hm i (n - 1) r (by omega); omega
        · obtain rfl : i = n - 1 := by omega
          omega
    · rw [if_neg q, List.append_nil]; exact ih
theorem sameS_iff {s t : Spt} (hs : Wf s) (ht : Wf t) : sameS s t = true ↔ cellK s = cellK t := by
  obtain ⟨⟨a1, a2⟩, a3, a4⟩ := hs
  obtain ⟨⟨b1, b2⟩, b3, b4⟩ := ht
  unfold sameS sameC cellK
  simp only [Bool.and_eq_true, decide_eq_true_eq]
  omega
theorem key_lt {x y : El} (hx : x.2 < 18446744073709551616) (hy : y.2 < 18446744073709551616) (h : keyE x ≤ keyE y) : cellK x.1 < cellK y.1 ∨ (cellK x.1 = cellK y.1 ∧ x.2 ≤ y.2) := by
  unfold keyE at h; omega
theorem first_ix {d : Array Spt} {s : Spt} : FirstIn d.toList s ↔ ∃ p, p < d.size ∧ d[p]! = s ∧ ∀ q, q < p → cellK d[q]! ≠ cellK s := by
  constructor
  · rintro ⟨pre, post, e, h⟩
    have hl : d.size = pre.length + (post.length + 1) := by rw [← Array.length_toList, e]; simp
    have hg : ∀ k, k < d.size → d[k]! = (pre ++ s :: post)[k]! := fun k hk => by
      rw [getElem!_pos d k hk, ← Array.getElem_toList hk]
      rw [getElem!_pos _ k (by rw [← e]; simpa using hk)]
      simp only [e]
    refine ⟨pre.length, by omega, by rw [hg _ (by omega)]; simp, fun q hq => ?_⟩
    rw [hg q (by omega), getElem!_pos _ q (by simp; omega), List.getElem_append_left hq]
    exact h _ (List.getElem_mem _)
  · rintro ⟨p, hp, rfl, h⟩
    refine ⟨d.toList.take p, d.toList.drop (p + 1), ?_, fun t ht => ?_⟩
    · rw [getElem!_pos d p hp, ← Array.getElem_toList hp, ← List.drop_eq_getElem_cons (by simpa using hp), List.take_append_drop]
    · obtain ⟨q, hq, e⟩ := List.mem_iff_getElem.1 ht
      have hq' : q < p := by simp at hq; omega
      have := h q hq'
      rw [getElem!_pos d q (by omega)] at this
      rw [← e]
      simpa using this
/-- Sorted, and but the first of each cell kept: the spots that count. -/
theorem cnt_sorted {d : Array Spt} {d' : Array El} {n : Nat} (hd : d.size = n) (hW : ∀ i, i < n → Wf d[i]!) (hn : n < 18446744073709551616) (hP : PermIn 0 n (withIx d) d') (hS : SortedIn ltE 0 n d') : CntOf d.toList (cptN (d'.map (·.1)) n) := by
  have hsz : d'.size = n := by rw [hP.1, withIx_size, hd]
  have hmem : ∀ i, i < n → ∃ p, p < n ∧ d'[i]! = (d[p]!, p) := fun i hi => by
    refine permIn_all (withIx d) d' 0 n (fun z => ∃ p, p < n ∧ z = (d[p]!, p)) (by rw [withIx_size]; omega) hP (fun j _ hj => ⟨j, hj, withIx_get (by omega)⟩) i (Nat.zero_le _) hi
  have hall : ∀ p, p < n → ∃ i, i < n ∧ d'[i]! = (d[p]!, p) := fun p hp => by
    have hx : (d[p]!, p) ∈ (withIx d).toList := by
      rw [← withIx_get (by omega), getElem!_pos _ p (by rw [withIx_size]; omega)]; simp
    have hp2 : (d'.extract 0 n).toList.Perm ((withIx d).extract 0 n).toList := hP.2.2
    have e1 : (d'.extract 0 n) = d' := by rw [← hsz]; simp
    have e2 : ((withIx d).extract 0 n) = withIx d := by rw [← hd, ← withIx_size]; simp
    rw [e1, e2] at hp2
    have := hp2.mem_iff.2 hx
    obtain ⟨i, hi, e⟩ := List.mem_iff_getElem.1 this
    have hi' : i < n := by simpa [hsz] using hi
    exact ⟨i, hi', by rw [getElem!_pos d' i (by omega)]; simpa using e⟩
  have hget : ∀ i, i < n → (d'.map (·.1))[i]! = (d'[i]!).1 := fun i hi => by
    rw [getElem!_pos _ i (by simp; omega), getElem!_pos d' i (by omega)]; simp
  have hkey : ∀ i j, i < j → j < n → keyE d'[i]! ≤ keyE d'[j]! := fun i j h1 h2 => ltE_false.1 (hS i j (Nat.zero_le _) h1 h2)
  have hmono : ∀ i j, i < j → j < n → cellK (d'[i]!).1 < cellK (d'[j]!).1 ∨ (cellK (d'[i]!).1 = cellK (d'[j]!).1 ∧ (d'[i]!).2 ≤ (d'[j]!).2) := fun i j h1 h2 => by
    obtain ⟨p, p1, p2⟩ := hmem i (by omega)
    obtain ⟨q, q1, q2⟩ := hmem j h2
    exact key_lt (by rw [p2]; show p < _; omega) (by rw [q2]; show q < _; omega) (hkey i j h1 h2)
  have hWf : ∀ i, i < n → Wf (d'[i]!).1 := fun i hi => by
    obtain ⟨p, p1, p2⟩ := hmem i hi
    rw [p2]; exact hW p p1
  have hsame : ∀ i j, i < n → j < n → (sameS (d'.map (·.1))[i]! (d'.map (·.1))[j]! = true ↔ cellK (d'.map (·.1))[i]! = cellK (d'.map (·.1))[j]!) := fun i j hi hj => by
    rw [hget i hi, hget j hj]; exact sameS_iff (hWf i hi) (hWf j hj)
  refine ⟨cpt_rise (fun i j h1 h2 => by rw [hget i (by omega), hget j h2]; have := hmono i j h1 h2; omega) hsame, fun s => ?_⟩
  rw [cpt_mem]
  have hnd : d'.toList.Nodup := by
    have hp2 : (d'.extract 0 n).toList.Perm ((withIx d).extract 0 n).toList := hP.2.2
    have e1 : (d'.extract 0 n) = d' := by rw [← hsz]; simp
    have e2 : ((withIx d).extract 0 n) = withIx d := by rw [← hd, ← withIx_size]; simp
    rw [e1, e2] at hp2
    refine hp2.nodup_iff.2 ?_
    rw [List.nodup_iff_pairwise_ne, List.pairwise_iff_getElem]
    intro a b ha hb hab
    have ha' : a < d.size := by simpa [withIx_size] using ha
    have hb' : b < d.size := by simpa [withIx_size] using hb
    intro e
    simp [withIx] at e
    omega
  rw [first_ix]
  constructor
  · rintro ⟨i, hi, rfl, h⟩
    obtain ⟨p, p1, p2⟩ := hmem i hi
    refine ⟨p, by omega, by rw [hget i hi, p2], fun q hq e => ?_⟩
    obtain ⟨j, j1, j2⟩ := hall q (by omega)
    have e' : cellK (d'[j]!).1 = cellK (d'[i]!).1 := by rw [j2]; rw [hget i hi] at e; exact e
    rcases Nat.lt_trichotomy j i with r | r | r
    · rcases h with h | h
      · omega
      · have e3 : ¬ cellK (d'.map (·.1))[i]! = cellK (d'.map (·.1))[i - 1]! := fun c => by
          rw [(hsame i (i - 1) hi (by omega)).2 c] at h; cases h
        rw [hget i hi, hget (i - 1) (by omega)] at e3
        have m1 := hmono (i - 1) i (by omega) hi
        rcases Nat.lt_or_ge j (i - 1) with s | s
        · have m2 := hmono j (i - 1) s (by omega); omega
        · obtain rfl : j = i - 1 := by omega
          omega
    · subst r
      rw [j2] at p2
      simp only [Prod.mk.injEq] at p2
      omega
    · have m1 := hmono i j r j1
      rw [j2, p2] at m1 e'
      simp only at m1 e'
      omega
  · rintro ⟨p, p1, rfl, h⟩
    obtain ⟨i, i1, i2⟩ := hall p (by omega)
    refine ⟨i, i1, by rw [hget i i1, i2], ?_⟩
    rcases Nat.eq_zero_or_pos i with r | r
    · exact Or.inl r
    · right
      rw [Bool.eq_false_iff]
      intro c
      have c2 := (hsame i (i - 1) i1 (by omega)).1 c
      rw [hget i i1, hget (i - 1) (by omega)] at c2
      obtain ⟨q, q1, q2⟩ := hmem (i - 1) (by omega)
      have m1 := hmono (i - 1) i (by omega) i1
      rw [q2, i2] at m1 c2
      simp only at m1 c2
      rcases Nat.lt_or_ge q p with s | s
      · exact h q s c2.symm
      · obtain rfl : q = p := by omega
        have hne := (List.nodup_iff_pairwise_ne.1 hnd)
        rw [List.pairwise_iff_getElem] at hne
        have := hne (i - 1) i (by simp; omega) (by simp; omega) (by omega)
        rw [getElem!_pos d' i (by omega)] at i2
        rw [getElem!_pos d' (i - 1) (by omega)] at q2
        simp only [Array.getElem_toList] at this
        exact this (q2.trans i2.symm)
end Go.Proofs.Ytephkmahnbhmbaa

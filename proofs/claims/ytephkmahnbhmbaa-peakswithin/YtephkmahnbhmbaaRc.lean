/- Spots that hang together: the walk. -/
import Derived.Test.YtephkmahnbhmbaaRb
namespace Go.Proofs.Ytephkmahnbhmbaa
open Go.ChangeShapes Go.WideShapes Go.ChangeAt Go.RowKit Go.Fl Go.Sort Go.Shelf Go.Lib Go.Maps
attribute [local go_sem] run_store_float call52 run_neg fold_eq fold_ne fold_lt fold_gt abs_eq eqg57

/-- Sorted by their cells, in place. -/
theorem t63o {w : World} {g cap n : Nat} {d : Array Spt} (h : OwnR w g cap d) (hd : d.size = n) (hn : n < 4611686018427387904) :
    Calls Try.prog 63 #[.slice (some ⟨g, 0, none⟩) n cap, .func (.func 58) #[] #[]] w fun e w' => e = .returned (.tuple #[]) ∧ ∃ d1, Hid (OwnR w' g cap d1 ∧ d1.toList.Perm d.toList ∧ ∀ i j, i < j → j < n → ¬ ordC (d1[j]!).1 (d1[j]!).2.1 (d1[i]!).1 (d1[i]!).2.1 < 0) ∧ Hid (Kp (fun k => k ≠ g) w w') := by
  have hs : (withIx d).size = n := by rw [withIx_size, hd]
  have h63 := AnyQ.slices_SortFunc (P := Try.prog) (ρ := sortRen) sortSpots 3 Try.isAgg29 Try.sizeOf29 elC elC_len elC_one cfE ordC_swo 58 #[] g 0 cap (withIx d) w eg58 (cmpLays58 _ _ _ _) h.holds h.lt (by omega)
  rw [hs] at h63
  refine Calls.mono h63 ?_
  rintro e w' ⟨rfl, d', m, os, hP, hS, hw⟩
  have hs' : d'.size = d.size := by rw [hP.1, withIx_size]
  obtain ⟨r1, r2⟩ := h.sorted hs' ⟨m, os, hw⟩
  refine ⟨rfl, d'.map (·.1), ⟨r1, ?_, fun i j hij hj => ?_⟩, r2⟩
  · have hp2 : (d'.extract 0 n).toList.Perm ((withIx d).extract 0 n).toList := hP.2.2
    have e1 : (d'.extract 0 n) = d' := by rw [← hd, ← hs']; simp
    have e2 : ((withIx d).extract 0 n) = withIx d := by rw [← hs]; simp
    rw [e1, e2] at hp2
    have := hp2.map (·.1)
    rw [Array.toList_map]
    refine this.trans ?_
    have e3 : (withIx d).toList.map (·.1) = d.toList := by
      apply List.ext_getElem
      · simp [withIx_size]
      · intro i h1 h2
        have hi : i < d.size := by simpa using h2
        simp [withIx, getElem!_pos d i hi]
    rw [e3]
  · have hget : ∀ i, i < n → (d'.map (·.1))[i]! = (d'[i]!).1 := fun i hi => by
      rw [getElem!_pos _ i (by simp; omega), getElem!_pos d' i (by omega)]; simp
    rw [hget i (by omega), hget j hj]
    have := hS i j (Nat.zero_le _) hij hj
    exact of_decide_eq_false this
/-- The cells about a spot's are gone over. -/
def visit (bins : Int) (st : List Spt × List Spt) (k : Nat) : List Spt × List Spt := (nbL bins 9223372036854775807 (st.1[k]!).1 (st.1[k]!).2.1).foldl takeL st
def bfsN (bins : Int) : Nat → Nat → List Spt × List Spt → List Spt × List Spt
  | 0, _, st => st
  | f + 1, k, st => if k < st.1.length then bfsN bins f (k + 1) (visit bins st k) else st
/-- Those that hang together with a spot, and those that are left. -/
def hangF (bins : Int) (R : List Spt) (s : Spt) : List Spt × List Spt := bfsN bins (R.length + 1) 0 (takeL ([], R) (cellOf s))
/-- Spots that may stand in a map of that many bins. -/
def Ok (bins : Int) (s : Spt) : Prop := 0 ≤ s.1 ∧ s.1 < bins ∧ 0 ≤ s.2.1 ∧ s.2.1 ≤ 9223372036854775807
theorem take_ok {bins : Int} {st : List Spt × List Spt} {c : Int × Int} (h : (∀ s ∈ st.1, Ok bins s) ∧ ∀ s ∈ st.2, Ok bins s) : (∀ s ∈ (takeL st c).1, Ok bins s) ∧ ∀ s ∈ (takeL st c).2, Ok bins s := by
  cases hf : fR st.2 c with
  | none => rw [takeL_none hf]; exact h
  | some t =>
    rw [takeL_some hf]
    refine ⟨fun s hs => ?_, fun s hs => h.2 s (List.mem_filter.1 hs).1⟩
    rcases List.mem_append.1 hs with e | e
    · exact h.1 s e
    · simp at e; subst e; exact h.2 s (fR_some hf).1
theorem fold_ok {bins : Int} : ∀ (l : List (Int × Int)) (st : List Spt × List Spt), ((∀ s ∈ st.1, Ok bins s) ∧ ∀ s ∈ st.2, Ok bins s) → (∀ s ∈ (l.foldl takeL st).1, Ok bins s) ∧ ∀ s ∈ (l.foldl takeL st).2, Ok bins s
  | [], _, h => h
  | c :: l, st, h => fold_ok l (takeL st c) (take_ok h)
theorem visits61 {base lB gB mb N n : Nat} {bins b g : Int} {st : List Spt × List Spt} (hn : n * 24 ≤ 140737488355328) (b0 : 0 ≤ b) (b1 : b < bins) (b2 : bins ≤ 9223372036854775807) (g1 : g ≤ 9223372036854775807) :
    Visits 61 #[.pointer (some ⟨lB, 0, none⟩), .pointer (some ⟨gB, 0, none⟩)] (fun c => c ∈ nbL bins 9223372036854775807 b g) (fun F l W => ∃ v M, HS base lB gB mb N n v M (l.foldl takeL st) F W) where
  up := by
    rintro F l w w' ⟨v, M, h⟩ hu
    exact ⟨v, M, h.up hu⟩
  step := by
    rintro F l w x y hc ⟨v, M, h⟩
    obtain ⟨r1, r2, r3, r4⟩ := nbL_in (c := (x, y)) b0 b1 g1 hc
    simp only at r1 r2 r3 r4
    refine (t61 hn ⟨⟨by show _ ≤ x; omega, by show x ≤ _; omega⟩, by show _ ≤ y; omega, by show y ≤ _; omega⟩ h).mono ?_
    rintro e w' ⟨rfl, H, K⟩
    refine ⟨rfl, ?_, K⟩
    rw [List.foldl_append]
    exact H.out
end Go.Proofs.Ytephkmahnbhmbaa

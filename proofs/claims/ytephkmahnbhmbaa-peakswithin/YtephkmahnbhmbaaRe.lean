/- Spots of unlike cells: what is taken, what is left. In plain words. -/
import Derived.Test.YtephkmahnbhmbaaRd
namespace Go.Proofs.Ytephkmahnbhmbaa
open Go.ChangeShapes Go.WideShapes Go.ChangeAt Go.RowKit Go.Fl Go.Sort Go.Shelf Go.Lib Go.Maps

/-- No two are of one cell. -/
def Dis (l : List Spt) : Prop := l.Pairwise (fun s t => cellOf s ≠ cellOf t)
theorem Dis.perm {l l' : List Spt} (h : Dis l) (hp : l.Perm l') : Dis l' := (hp.pairwise_iff (fun {a b} (e : cellOf a ≠ cellOf b) => e.symm)).1 h
theorem Dis.uniq {l : List Spt} (h : Dis l) {s t : Spt} (hs : s ∈ l) (ht : t ∈ l) (e : cellOf s = cellOf t) : s = t := by
  induction l with
  | nil => cases hs
  | cons a l ih =>
    obtain ⟨h1, h2⟩ := List.pairwise_cons.1 h
    rcases List.mem_cons.1 hs with e1 | e1 <;> rcases List.mem_cons.1 ht with e2 | e2
    · rw [e1, e2]
    · subst e1; exact absurd e (h1 t e2)
    · subst e2; exact absurd e.symm (h1 s e1)
    · exact ih h2 e1 e2
theorem fR_mem {R : List Spt} (h : Dis R) {s : Spt} (hs : s ∈ R) : fR R (cellOf s) = some s := by
  unfold fR
  cases hf : R.find? (atC (cellOf s)) with
  | none =>
    have := List.find?_eq_none.1 hf s hs
    simp [atC] at this
  | some t =>
    obtain ⟨h1, h2⟩ := fR_some hf
    rw [h.uniq h1 hs h2]
theorem take_one {R : List Spt} (h : Dis R) {c : Int × Int} {s : Spt} (hs : fR R c = some s) : (s :: dropC R c).Perm R := by
  induction R with
  | nil => cases hs
  | cons a l ih =>
    obtain ⟨h1, h2⟩ := List.pairwise_cons.1 h
    unfold fR at hs
    by_cases ha : atC c a = true
    · rw [List.find?_cons_of_pos ha] at hs
      cases hs
      unfold dropC
      rw [List.filter_cons_of_neg (by simp [ha])]
      have e : l.filter (fun s => !atC c s) = l := by
        rw [List.filter_eq_self]
        intro t ht
        simp [atC] at ha ⊢
        intro e
        exact h1 t ht (ha.trans e.symm)
      rw [e]
    · rw [List.find?_cons_of_neg ha] at hs
      unfold dropC
      rw [List.filter_cons_of_pos (by simpa using ha)]
      exact (List.Perm.swap _ _ _).trans (List.Perm.cons _ (ih h2 hs))
theorem take_perm {st : List Spt × List Spt} (h : Dis st.2) (c : Int × Int) : ((takeL st c).1 ++ (takeL st c).2).Perm (st.1 ++ st.2) ∧ Dis (takeL st c).2 := by
  cases hf : fR st.2 c with
  | none => rw [takeL_none hf]; exact ⟨List.Perm.refl _, h⟩
  | some s =>
    rw [takeL_some hf]
    refine ⟨?_, h.filter _⟩
    rw [List.append_assoc]
    exact List.Perm.append_left _ (take_one h hf)
theorem fold_perm : ∀ (l : List (Int × Int)) (st : List Spt × List Spt), Dis st.2 → ((l.foldl takeL st).1 ++ (l.foldl takeL st).2).Perm (st.1 ++ st.2) ∧ Dis (l.foldl takeL st).2
  | [], _, h => ⟨List.Perm.refl _, h⟩
  | c :: l, st, h => by
    obtain ⟨h1, h2⟩ := take_perm h c
    obtain ⟨h3, h4⟩ := fold_perm l (takeL st c) h2
    exact ⟨h3.trans h1, h4⟩
theorem bfs_perm (bins : Int) : ∀ (f k : Nat) (st : List Spt × List Spt), Dis st.2 → ((bfsN bins f k st).1 ++ (bfsN bins f k st).2).Perm (st.1 ++ st.2) ∧ Dis (bfsN bins f k st).2
  | 0, _, _, h => ⟨List.Perm.refl _, h⟩
  | f + 1, k, st, h => by
    unfold bfsN
    split
    · obtain ⟨h1, h2⟩ := fold_perm (nbL bins 9223372036854775807 (st.1[k]!).1 (st.1[k]!).2.1) st h
      obtain ⟨h3, h4⟩ := bfs_perm bins f (k + 1) (visit bins st k) h2
      exact ⟨h3.trans h1, h4⟩
    · exact ⟨List.Perm.refl _, h⟩
theorem hang_perm {bins : Int} {R : List Spt} (h : Dis R) (s : Spt) : ((hangF bins R s).1 ++ (hangF bins R s).2).Perm R ∧ Dis (hangF bins R s).2 := by
  obtain ⟨h1, h2⟩ := take_perm (st := ([], R)) h (cellOf s)
  obtain ⟨h3, h4⟩ := bfs_perm bins (R.length + 1) 0 (takeL ([], R) (cellOf s)) h2
  exact ⟨h3.trans h1, h4⟩
theorem hang_dis {bins : Int} {R : List Spt} (h : Dis R) (s : Spt) : Dis (hangF bins R s).1 :=
  (List.pairwise_append.1 (h.perm (hang_perm h s).1.symm)).1
theorem cellK_inj {s t : Spt} (hs : Wf s) (ht : Wf t) : cellK s = cellK t ↔ cellOf s = cellOf t := by
  obtain ⟨⟨a1, a2⟩, a3, a4⟩ := hs
  obtain ⟨⟨b1, b2⟩, b3, b4⟩ := ht
  unfold cellK cellOf
  rw [Prod.mk.injEq]
  omega
/-- Of unlike cells: sorted, they are the spots that count. -/
theorem sorted_cnt {L G : List Spt} (hW : ∀ s ∈ L, Wf s) (hD : Dis L) (hP : G.Perm L) (hS : G.Pairwise (fun s t => ¬ ordC t.1 t.2.1 s.1 s.2.1 < 0)) : G = cntF L := by
  have hDG : Dis G := hD.perm hP.symm
  have hWG : ∀ s ∈ G, Wf s := fun s hs => hW s (hP.mem_iff.1 hs)
  refine CntOf.uniq (L := L) ⟨?_, fun s => ?_⟩ (cntF_of L)
  · have h2 := hS.and hDG
    refine List.Pairwise.imp_of_mem ?_ h2
    intro a b ha hb ⟨e1, e2⟩
    have h1 := ordC_neg (hWG b hb) (hWG a ha)
    have h3 : cellK a ≠ cellK b := fun e => e2 ((cellK_inj (hWG a ha) (hWG b hb)).1 e)
    rw [h1] at e1
    omega
  · rw [hP.mem_iff]
    constructor
    · intro hs
      obtain ⟨u, hu, e⟩ := first_of_mem hs
      have : u = s := hD.uniq hu.mem hs ((cellK_inj (hW u hu.mem) (hW s hs)).1 e)
      exact this ▸ hu
    · exact fun h => h.mem
theorem dis_of_rise {C : List Spt} (h : C.Pairwise (fun s t => cellK s < cellK t)) (hW : ∀ s ∈ C, Wf s) : Dis C :=
  List.Pairwise.imp_of_mem (fun {a b} ha hb e c => by
    have := (cellK_inj (hW a ha) (hW b hb)).2 c
    omega) h
/-- The groups of the first spots, and those that are left. -/
def grpN (bins : Int) (C : List Spt) : Nat → List (List Spt) × List Spt
  | 0 => ([], C)
  | i + 1 => if (fR (grpN bins C i).2 (cellOf C[i]!)).isSome = true then ((grpN bins C i).1 ++ [cntF (hangF bins (grpN bins C i).2 C[i]!).1], (hangF bins (grpN bins C i).2 C[i]!).2) else grpN bins C i
theorem grpN_dis {bins : Int} {C : List Spt} (h : Dis C) : ∀ i, Dis (grpN bins C i).2
  | 0 => h
  | i + 1 => by
    unfold grpN
    split
    · exact (hang_perm (grpN_dis h i) _).2
    · exact grpN_dis h i
theorem grpN_sub {bins : Int} {C : List Spt} (h : Dis C) : ∀ i s, s ∈ (grpN bins C i).2 → s ∈ C
  | 0, s, hs => hs
  | i + 1, s, hs => by
    unfold grpN at hs
    split at hs
    · have := (hang_perm (bins := bins) (grpN_dis (bins := bins) h i) C[i]!).1
      exact grpN_sub h i s (this.mem_iff.1 (List.mem_append_right _ hs))
    · exact grpN_sub h i s hs
theorem grpN_len {bins : Int} {C : List Spt} : ∀ i, (grpN bins C i).1.length ≤ i
  | 0 => Nat.le_refl _
  | i + 1 => by
    have := grpN_len (bins := bins) (C := C) i
    unfold grpN
    split
    · simp; omega
    · omega
end Go.Proofs.Ytephkmahnbhmbaa

/- Spots in an order: where two are of one cell, the one that stood ahead. -/
import Derived.Test.YtflngnnoibkkoaaGreatKQs
import Derived.Test.YtflngnnoibkkoaaGreatKPf
import Derived.Shelf.SlSortCmp.WholeK
namespace Go.Proofs.YtflngnnoibkkoaaGreat.Pk
open Go.ChangeShapes Go.WideShapes Go.ChangeAt Go.RowKit Go.Fl Go.Sort Go.Shelf Go.Lib
set_option maxRecDepth 200000
set_option maxHeartbeats 8000000

/-- A spot and where it stood. -/
abbrev El := Spt × Nat
def elC (e : El) : List Value := spC e.1
theorem elC_len (e : El) : (elC e).length = 3 := rfl
theorem elC_one (e : El) : ∀ v ∈ elC e, v.oneCell' = true := by
  intro v hv
  simp [elC, spC] at hv
  rcases hv with rfl | rfl | rfl <;> rfl
/-- The order of their cells. -/
def cfE (x y : El) : Int := ordC x.1.1 x.1.2.1 y.1.1 y.1.2.1
/-- A spot whose numbers are of 64 bits. -/
def Wf (s : Spt) : Prop := (-9223372036854775808 ≤ s.1 ∧ s.1 ≤ 9223372036854775807) ∧ (-9223372036854775808 ≤ s.2.1 ∧ s.2.1 ≤ 9223372036854775807)
/-- Cells by one number. -/
def cellK (s : Spt) : Nat := (s.1 + 9223372036854775808).toNat * 18446744073709551616 + (s.2.1 + 9223372036854775808).toNat
def keyE (e : El) : Nat := cellK e.1 * 18446744073709551616 + e.2
def ltE (x y : El) : Bool := decide (keyE x < keyE y)
theorem ltE_true {x y : El} : ltE x y = true ↔ keyE x < keyE y := by simp [ltE]
theorem ltE_false {x y : El} : ltE x y = false ↔ keyE y ≤ keyE x := by simp [ltE]
theorem swoE : SWO ltE where
  irrefl x := by simp [ltE]
  trans x y z h1 h2 := by rw [ltE_true] at *; omega
  ntrans x y z h1 h2 := by rw [ltE_false] at *; omega
theorem ordC_neg {s t : Spt} (hs : Wf s) (ht : Wf t) : ordC s.1 s.2.1 t.1 t.2.1 < 0 ↔ cellK s < cellK t := by
  obtain ⟨⟨a1, a2⟩, a3, a4⟩ := hs
  obtain ⟨⟨b1, b2⟩, b3, b4⟩ := ht
  unfold ordC orI cmpI cellK
  repeat' split
  all_goals omega
theorem cf_neg {x y : El} (hx : Wf x.1) (hy : Wf y.1) (hi : y.2 < x.2) (hb : x.2 < 18446744073709551616) : cfE x y < 0 ↔ keyE x < keyE y := by
  have h := ordC_neg hx hy
  unfold cfE
  rw [h]
  unfold keyE
  generalize cellK x.1 = p
  generalize cellK y.1 = q
  omega
theorem ltOf_cf {x y : El} (hx : Wf x.1) (hy : Wf y.1) (hi : y.2 < x.2) (hb : x.2 < 18446744073709551616) : ltOf cfE x y = ltE x y := by
  unfold ltOf ltE
  rw [decide_eq_decide]
  exact cf_neg hx hy hi hb
theorem ordC_iff (a b c d : Int) : ordC a b c d < 0 ↔ a < c ∨ a = c ∧ b < d := by
  unfold ordC orI cmpI
  repeat' split
  all_goals omega
theorem ordC_swo : SWO (ltOf cfE) where
  irrefl x := by simp [ltOf, cfE, ordC, orI, cmpI]
  trans x y z h1 h2 := by
    simp only [ltOf, cfE, decide_eq_true_eq, ordC_iff] at *
    omega
  ntrans x y z h1 h2 := by
    simp only [ltOf, cfE, decide_eq_false_iff_not, ordC_iff] at *
    omega
theorem eg58 (args : Array Value) (w : World) : (callFunc 176 args).run Tryz.prog w = .ok (.enter 176 args) w := enters Tryz.func176 (by kernel_rfl) (by kernel_rfl) _ _
theorem cmpLays58 (blk off size : Nat) (w : World) : CmpLays Tryz.prog 176 #[] elC 3 cfE blk off size w := fun _ _ _ _ x y =>
  (t58 x.1.1 x.1.2.1 x.1.2.2 y.1.1 y.1.2.1 y.1.2.2 _).mono fun _ _ ⟨he, hg⟩ => ⟨he, hg.out⟩
/-- Each stands behind those that stood ahead; all are of 64 bits. -/
def Fit2 (d : Array El) : Prop := ∀ i, i < d.size → Wf (d[i]!).1 ∧ (d[i]!).2 < 18446744073709551616
def Rise (a b : Nat) (d : Array El) : Prop := ∀ i j, a ≤ i → i < j → j < b → (d[i]!).2 < (d[j]!).2
theorem insInner_same (lt lt' : El → El → Bool) (a : Nat) : ∀ (j : Nat) (d : Array El), j < d.size → (∀ x, a ≤ x → x < j → lt d[j]! d[x]! = lt' d[j]! d[x]!) → insInner lt a j d = insInner lt' a j d
  | 0, d, _, _ => rfl
  | j + 1, d, hj, h => by
    unfold insInner
    by_cases ha : j + 1 > a
    · have e := h j (by omega) (by omega)
      rw [e]
      by_cases hl : (decide (j + 1 > a) && lt' d[j + 1]! d[j]!) = true
      · rw [if_pos hl, if_pos hl]
        refine insInner_same lt lt' a j _ (by rw [size_swp]; omega) (fun x hx hx' => ?_)
        rw [swp_right _ _ _ (by omega), swp_other _ _ _ _ (by omega) (by omega)]
        exact h x hx (by omega)
      · rw [if_neg hl, if_neg hl]
    · rw [if_neg (by simp; omega), if_neg (by simp; omega)]
theorem insInner_out (lt : El → El → Bool) (a : Nat) : ∀ (j : Nat) (d : Array El), j < d.size → a ≤ j → PermIn a (j + 1) d (insInner lt a j d)
  | 0, d, _, _ => permIn_refl _ _ _
  | j + 1, d, hj, haj => by
    unfold insInner
    split
    · rename_i h
      simp only [Bool.and_eq_true, decide_eq_true_eq] at h
      have := insInner_out lt a j (swp d (j + 1) j) (by rw [size_swp]; omega) (by omega)
      exact permIn_trans _ _ _ _ _ (swp_permIn _ _ _ _ _ (by omega) (by omega) (by omega) (by omega) (by omega)) (permIn_mono _ _ _ _ _ _ (Nat.le_refl _) (by omega) (by rw [size_swp]; omega) this)
    · exact permIn_refl _ _ _
/-- Sorted by cells as they come in, they are sorted by both. -/
theorem insOuter_same {a b : Nat} {d0 : Array El} (hF : Fit2 d0) (hR : Rise a b d0) (hb : b ≤ d0.size) : ∀ (n i : Nat) (d : Array El), b - i = n → a < i → i ≤ b → PermIn a i d0 d → insOuter (ltOf cfE) a b i d = insOuter ltE a b i d
  | 0, i, d, hn, _, hib, _ => by
    rw [insOuter_stop _ _ _ _ _ (by omega), insOuter_stop _ _ _ _ _ (by omega)]
  | n + 1, i, d, hn, hai, hib, hP => by
    have hs : d.size = d0.size := hP.1
    have hi : i < b := by omega
    rw [insOuter_go _ _ _ _ _ hi, insOuter_go _ _ _ _ _ hi]
    have e : insInner (ltOf cfE) a i d = insInner ltE a i d := by
      refine insInner_same _ _ a i d (by omega) (fun x hx hx' => ?_)
      have ei : d[i]! = d0[i]! := hP.2.1 i (Or.inr (Nat.le_refl _))
      have hx2 := permIn_all d0 d a i (fun z => Wf z.1 ∧ z.2 < (d0[i]!).2) (by omega) hP (fun j h1 h2 => ⟨(hF j (by omega)).1, hR j i h1 h2 hi⟩) x hx hx'
      rw [ei]
      exact ltOf_cf (hF i (by omega)).1 hx2.1 hx2.2 (hF i (by omega)).2
    rw [e]
    refine insOuter_same hF hR hb n (i + 1) _ (by omega) (by omega) (by omega) ?_
    exact permIn_trans _ _ _ _ _ (permIn_mono _ _ _ _ _ _ (Nat.le_refl _) (by omega) (by omega) hP) (insInner_out ltE a i d (by omega) (by omega))
theorem ins_sorted {a b : Nat} {d : Array El} (hF : Fit2 d) (hR : Rise a b d) (hab : a ≤ b) (hb : b ≤ d.size) : PermIn a b d (insertionSort (ltOf cfE) d a b) ∧ SortedIn ltE a b (insertionSort (ltOf cfE) d a b) := by
  have e : insertionSort (ltOf cfE) d a b = insertionSort ltE d a b := by
    unfold insertionSort
    rcases Nat.lt_or_ge a b with h | h
    · exact insOuter_same hF hR hb _ (a + 1) d rfl (by omega) (by omega) (permIn_refl _ _ _)
    · rw [insOuter_stop _ _ _ _ _ (by omega), insOuter_stop _ _ _ _ _ (by omega)]
  rw [e]
  exact insertionSort_holds swoE d a b hab hb
theorem rowE {w : World} {blk off : Nat} {d : Array El} (h : HoldsK elC 3 w blk off d) (hb : blk < w.heap.size) : RowK elC 3 w blk off d := ⟨elC_len, elC_one, h, hb⟩
/-- The sort by insertion of a part. -/
theorem t74 {blk off cap a b : Nat} {d0 d : Array El} {w0 w : World} (R : RowK elC 3 w0 blk off d0) (hs : d0.size = d.size) (S : SWK elC 3 w0 blk off d w) (hF : Fit2 d) (hR : Rise a b d) (hab : a ≤ b) (hb : b ≤ d.size) (hsz : d.size < 4611686018427387904) :
    Calls Tryz.prog 217 #[.slice (some ⟨blk, off, none⟩) d.size cap, .int .i64 a, .int .i64 b, .func (.func 176) #[] #[]] w fun e w' => e = .returned (.tuple #[]) ∧ ∃ d', SWK elC 3 w0 blk off d' w' ∧ PermIn a b d d' ∧ SortedIn ltE a b d' := by
  have h := AnyQ.insertionSortCmpFunc_w (P := Tryz.prog) (ρ := sortRen) { sortSpots with } 3 Tryz.isAgg151 Tryz.sizeOf151 elC cfE 176 #[] blk off cap a b d0 d w0 w eg58 (cmpLays58 _ _ _ _) R hs S ordC_swo hab hb hsz
  refine Calls.mono h ?_
  rintro e w' ⟨rfl, S'⟩
  obtain ⟨h1, h2⟩ := ins_sorted hF hR hab hb
  exact ⟨rfl, _, S', h1, h2⟩
end Go.Proofs.YtflngnnoibkkoaaGreat.Pk
/- The stable sort of few spots. -/
namespace Go.Proofs.YtflngnnoibkkoaaGreat.Pk
open Go.ChangeShapes Go.WideShapes Go.ChangeAt Go.RowKit Go.Fl Go.Sort Go.Shelf Go.Lib
set_option maxRecDepth 200000
set_option maxHeartbeats 8000000

/-- What the sort promises of a row of n spots. -/
def Sorts (n : Nat) : Prop := ∀ (blk off cap : Nat) (d : Array El) (w : World), d.size = n → HoldsK elC 3 w blk off d → blk < w.heap.size → Fit2 d → Rise 0 n d →
  Calls Tryz.prog 175 #[.slice (some ⟨blk, off, none⟩) n cap, .func (.func 176) #[] #[]] w fun e w' => e = .returned (.tuple #[]) ∧ ∃ d', SWK elC 3 w blk off d' w' ∧ PermIn 0 n d d' ∧ SortedIn ltE 0 n d'
theorem t70s (n blk off cap : Nat) (d : Array El) (w : World) (hn : n < 20) (hd : d.size = n) (hH : HoldsK elC 3 w blk off d) (hb : blk < w.heap.size) (hF : Fit2 d) (hR : Rise 0 n d) :
    Calls Tryz.prog 198 #[.slice (some ⟨blk, off, none⟩) n cap, .int .i64 n, .func (.func 176) #[] #[]] w fun e w' => e = .returned (.tuple #[]) ∧ ∃ d', SWK elC 3 w blk off d' w' ∧ PermIn 0 n d d' ∧ SortedIn ltE 0 n d' := by
  have h74 := t74 (cap := cap) (rowE hH hb) rfl (SWK.start hH) hF (hd ▸ hR) (Nat.zero_le _) (Nat.le_refl _) (by omega)
  rw [hd] at h74
  have H74 : Hid (Calls Tryz.prog 217 #[.slice (some ⟨blk, off, none⟩) n cap, .int .i64 0, .int .i64 n, .func (.func 176) #[] #[]] w fun e w' => e = .returned (.tuple #[]) ∧ Hid (∃ d', SWK elC 3 w blk off d' w' ∧ PermIn 0 n d d' ∧ SortedIn ltE 0 n d')) := h74
  clear h74 hH hF hR
  have n1 : (n : Int) < 20 := by omega
  go_enter Tryz.func198, Tryz.ntmps198
  go_wp2
  go_loopw [7, 8] (fun va vb wr => va = .int .i64 0 ∧ vb = .int .i64 20 ∧ Hid (wr = w)) (fun _ _ _ => 0)
  case atStart => exact ⟨rfl, rfl, rfl⟩
  case round =>
    obtain ⟨rfl, rfl, hw⟩ := hrel
    have hw := hw.out
    subst hw
    go_wp2_with (first
      | (go_at_call 217; (with_reducible refine H74.out.mono ?_); rintro e w1 ⟨rfl, HD⟩))
    go_loopw [6, 7, 8, 9] (fun vs _ _ _ wr => vs = .int .i64 20 ∧ Hid (wr = w1)) (fun _ _ _ _ _ => 0)
    case atStart => exact ⟨rfl, rfl⟩
    case round =>
      obtain ⟨rfl, hw⟩ := hrel
      have hw := hw.out
      subst hw
      go_wp2
      go_end0
      exact ⟨rfl, HD.out⟩
theorem sorts_few {n : Nat} (hn : n < 20) : Sorts n := by
  intro blk off cap d w hd hH hb hF hR
  have H70 : Hid (Calls Tryz.prog 198 #[.slice (some ⟨blk, off, none⟩) n cap, .int .i64 n, .func (.func 176) #[] #[]] w fun e w' => e = .returned (.tuple #[]) ∧ Hid (∃ d', SWK elC 3 w blk off d' w' ∧ PermIn 0 n d d' ∧ SortedIn ltE 0 n d')) := t70s n blk off cap d w hn hd hH hb hF hR
  clear hH hF hR
  go_enter Tryz.func175, Tryz.ntmps175
  go_wp2_with (first
    | (go_at_call 198; (with_reducible refine H70.out.mono ?_); rintro e w1 ⟨rfl, HD⟩))
  go_end0
  exact ⟨rfl, HD.out⟩
end Go.Proofs.YtflngnnoibkkoaaGreat.Pk

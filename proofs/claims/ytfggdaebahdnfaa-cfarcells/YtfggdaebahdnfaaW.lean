/- The merge in place of two sorted neighbours: what its halves are, in plain words. -/
import Derived.Test.YtfggdaebahdnfaaV
namespace Go.Proofs.Ytfggdaebahdnfaa
open Go.ChangeShapes Go.WideShapes Go.ChangeAt Go.RowKit Go.Fl Go.Sort

/-- Behind the turn: four sorted runs, the first two nowhere above the last two. -/
def Runs (a s mid en b : Nat) (d d1 : Array Nat) : Prop := PermIn a b d d1 ∧ SortedIn ltK a s d1 ∧ SortedIn ltK s mid d1 ∧ SortedIn ltK mid en d1 ∧ SortedIn ltK en b d1 ∧ ∀ x y, a ≤ x → x < mid → mid ≤ y → y < b → key d1[x]! ≤ key d1[y]!
/-- .. the first two merged. -/
def Runs2 (a mid en b : Nat) (d d1 : Array Nat) : Prop := PermIn a b d d1 ∧ SortedIn ltK a mid d1 ∧ SortedIn ltK mid en d1 ∧ SortedIn ltK en b d1 ∧ ∀ x y, a ≤ x → x < mid → mid ≤ y → y < b → key d1[x]! ≤ key d1[y]!

theorem sortedLE {a b : Nat} {d : Array Nat} (h : SortedIn ltK a b d) {x y : Nat} (h1 : a ≤ x) (h2 : x ≤ y) (h3 : y < b) : key d[x]! ≤ key d[y]! := by
  rcases Nat.lt_or_ge x y with hl | hg
  · exact ltK_false.1 (h x y h1 hl h3)
  · obtain rfl : x = y := by omega
    exact Nat.le_refl _
theorem sorted_of {a b : Nat} {d : Array Nat} (h : ∀ x y, a ≤ x → x < y → y < b → key d[x]! ≤ key d[y]!) : SortedIn ltK a b d := fun x y h1 h2 h3 => ltK_false.2 (h x y h1 h2 h3)

theorem runs_of {a m b s mid en : Nat} {d d1 : Array Nat} (hR : Rot s m en d d1) (hP : PermIn a b d d1) (h1 : SortedIn ltK a m d) (h2 : SortedIn ltK m b d) (has : a ≤ s) (hsm : s ≤ m) (hsd : s ≤ mid) (hen : en + s = mid + m) (hme : m ≤ en) (heb : en ≤ b)
    (c1 : s = a ∨ en = b ∨ key d[s - 1]! ≤ key d[en]!) (c2 : s = m ∨ en = m ∨ key d[en - 1]! < key d[s]!) : Runs a s mid en b d d1 := by
  have lo : ∀ x, x < s → d1[x]! = d[x]! := fun x hx => by rw [hR.2, if_neg (by omega), if_neg (by omega)]
  have la : ∀ x, s ≤ x → x < mid → d1[x]! = d[x - s + m]! := fun x h hx => by rw [hR.2, if_pos (by omega)]
  have lb : ∀ x, mid ≤ x → x < en → d1[x]! = d[x - (en - m)]! := fun x h hx => by rw [hR.2, if_neg (by omega), if_pos (by omega)]
  have lc : ∀ x, en ≤ x → d1[x]! = d[x]! := fun x h => by rw [hR.2, if_neg (by omega), if_neg (by omega)]
  refine ⟨hP, sorted_of fun x y k1 k2 k3 => ?_, sorted_of fun x y k1 k2 k3 => ?_, sorted_of fun x y k1 k2 k3 => ?_, sorted_of fun x y k1 k2 k3 => ?_, fun x y k1 k2 k3 k4 => ?_⟩
  · rw [lo x (by omega), lo y (by omega)]; exact sortedLE h1 (by omega) (by omega) (by omega)
  · rw [la x (by omega) (by omega), la y (by omega) (by omega)]; exact sortedLE h2 (by omega) (by omega) (by omega)
  · rw [lb x (by omega) (by omega), lb y (by omega) (by omega)]; exact sortedLE h1 (by omega) (by omega) (by omega)
  · rw [lc x (by omega), lc y (by omega)]; exact sortedLE h2 (by omega) (by omega) (by omega)
  · rcases Nat.lt_or_ge x s with hx | hx <;> rcases Nat.lt_or_ge y en with hy | hy
    · rw [lo x hx, lb y k3 hy]; exact sortedLE h1 (by omega) (by omega) (by omega)
    · rw [lo x hx, lc y hy]
      rcases c1 with c | c | c
      · omega
      · omega
      · have e1 := sortedLE h1 (show a ≤ x by omega) (show x ≤ s - 1 by omega) (by omega)
        have e2 := sortedLE h2 (show m ≤ en by omega) hy k4
        omega
    · rw [la x hx k2, lb y k3 hy]
      rcases c2 with c | c | c
      · omega
      · omega
      · have e1 := sortedLE h2 (show m ≤ x - s + m by omega) (show x - s + m ≤ en - 1 by omega) (by omega)
        have e2 := sortedLE h1 (show a ≤ s by omega) (show s ≤ y - (en - m) by omega) (by omega)
        omega
    · rw [la x hx k2, lc y hy]; exact sortedLE h2 (by omega) (by omega) (by omega)
/-- No turn is called for. -/
theorem rot_none {s m en : Nat} (d : Array Nat) (h : s = m ∨ en = m) (h1 : s ≤ m) (h2 : m ≤ en) : Rot s m en d d := ⟨rfl, fun x => by
  repeat' split
  all_goals first | omega | rfl | (congr 1; omega)⟩
theorem sorted_congr {a b : Nat} {d d' : Array Nat} (h : SortedIn ltK a b d) (he : ∀ x, a ≤ x → x < b → d'[x]! = d[x]!) : SortedIn ltK a b d' :=
  sorted_of fun x y h1 h2 h3 => by rw [he x (by omega) (by omega), he y (by omega) (by omega)]; exact sortedLE h h1 (by omega) h3
/-- The first half is one run. -/
theorem runs_left {a s mid en b : Nat} {d d1 : Array Nat} (h : Runs a s mid en b d d1) (hs : s ≤ a ∨ mid ≤ s) : Runs2 a mid en b d d1 := by
  obtain ⟨hP, h1, h2, h3, h4, hc⟩ := h
  refine ⟨hP, ?_, h3, h4, hc⟩
  rcases hs with hs | hs
  · exact fun x y k1 k2 k3 => h2 x y (by omega) k2 k3
  · exact fun x y k1 k2 k3 => h1 x y k1 k2 (by omega)
theorem runs_merged {a s mid en b : Nat} {d d1 d2 : Array Nat} (h : Runs a s mid en b d d1) (hP : PermIn a mid d1 d2) (hS : SortedIn ltK a mid d2) (hmb : mid ≤ b) (hme : mid ≤ en) (hb : b ≤ d.size) : Runs2 a mid en b d d2 := by
  obtain ⟨hP1, h1, h2, h3, h4, hc⟩ := h
  have hs : d1.size = d.size := hP1.1
  have out : ∀ x, mid ≤ x → d2[x]! = d1[x]! := fun x hx => hP.2.1 x (Or.inr hx)
  refine ⟨permIn_trans _ _ _ _ _ hP1 (permIn_mono _ _ _ _ _ _ (Nat.le_refl _) hmb (by omega) hP), hS, sorted_congr h3 fun x k1 k2 => out x (by omega), sorted_congr h4 fun x k1 k2 => out x (by omega), fun x y k1 k2 k3 k4 => ?_⟩
  rw [out y k3]
  exact permIn_all d1 d2 a mid (fun z => key z ≤ key d1[y]!) (by omega) hP (fun i i1 i2 => hc i y i1 i2 k3 k4) x k1 k2
theorem runs_end {a mid en b : Nat} {d d1 d2 : Array Nat} (h : Runs2 a mid en b d d1) (hP : PermIn mid b d1 d2) (hS : SortedIn ltK mid b d2) (hb : b ≤ d.size) (hab : a ≤ mid) : PermIn a b d d2 ∧ SortedIn ltK a b d2 := by
  obtain ⟨hP1, h1, h3, h4, hc⟩ := h
  have hs : d1.size = d.size := hP1.1
  have out : ∀ x, x < mid → d2[x]! = d1[x]! := fun x hx => hP.2.1 x (Or.inl hx)
  refine ⟨permIn_trans _ _ _ _ _ hP1 (permIn_mono _ _ _ _ _ _ hab (Nat.le_refl _) (by omega) hP), sorted_of fun x y k1 k2 k3 => ?_⟩
  rcases Nat.lt_or_ge y mid with hy | hy
  · rw [out x (by omega), out y hy]; exact sortedLE h1 k1 (by omega) hy
  · rcases Nat.lt_or_ge x mid with hx | hx
    · rw [out x hx]
      exact permIn_all d1 d2 mid b (fun z => key d1[x]! ≤ key z) (by omega) hP (fun i i1 i2 => hc x i k1 hx i1 i2) y hy k3
    · exact sortedLE hS hx (by omega) k3
theorem runs_right {a mid en b : Nat} {d d1 : Array Nat} (h : Runs2 a mid en b d d1) (he : en ≤ mid ∨ b ≤ en) : SortedIn ltK mid b d1 := by
  obtain ⟨hP1, h1, h3, h4, hc⟩ := h
  rcases he with he | he
  · exact fun x y k1 k2 k3 => h4 x y (by omega) k2 k3
  · exact fun x y k1 k2 k3 => h3 x y k1 k2 (by omega)
end Go.Proofs.Ytfggdaebahdnfaa

/- The merge in place of two sorted neighbours, the second of one place. -/
import Derived.Test.YtflngnnoibkkoaaGreatCF
namespace Go.Proofs.YtflngnnoibkkoaaGreat.Cf
open Go.ChangeShapes Go.WideShapes Go.ChangeAt Go.RowKit Go.Fl Go.Sort
set_option maxRecDepth 200000
set_option maxHeartbeats 8000000
attribute [local go_sem] run_store_float call35 call46 run_neg fold_eq fold_ne fold_lt fold_gt abs_eq

/-- The last is moved down, step by step. -/
theorem down_start (m : Nat) (d : Array Nat) : Rot m m (m + 1) d d := ⟨rfl, fun x => by
  repeat' split
  all_goals first | omega | rfl | (congr 1; omega)⟩
theorem down_step {k m : Nat} {d dk : Array Nat} (h : Rot (k + 1) m (m + 1) d dk) (hk : k < m) (hs : m < d.size) : Rot k m (m + 1) d (swp dk (k + 1) k) := by
  refine ⟨(size_swp _ _ _).trans h.1, fun x => ?_⟩
  have hs' : dk.size = d.size := h.1
  by_cases h1 : x = k + 1
  · subst h1
    rw [swp_left _ _ _ (by omega) (by omega), h.2]
    repeat' split
    all_goals first | omega | rfl | (congr 1; omega)
  · by_cases h2 : x = k
    · subst h2
      rw [swp_right _ _ _ (by omega), h.2]
      repeat' split
      all_goals first | omega | rfl | (congr 1; omega)
    · rw [swp_other _ _ _ _ h1 h2, h.2]
      repeat' split
      all_goals first | omega | rfl | (congr 1; omega)
theorem down_sorted {a m i : Nat} {d d' : Array Nat} (h : Rot i m (m + 1) d d') (hi : a ≤ i) (him : i ≤ m) (h1 : SortedIn ltK a m d) (hl : ∀ x, a ≤ x → x < i → ltK d[m]! d[x]! = false) (hg : ∀ x, i ≤ x → x < m → ltK d[m]! d[x]! = true) : SortedIn ltK a (m + 1) d' := by
  intro p q hp hpq hq
  rw [ltK_false, h.2 p, h.2 q]
  repeat' split
  · omega
  · have := ltK_true.1 (hg (q - (m + 1 - m)) (by omega) (by omega))
    have e : p - i + m = m := by omega
    rw [e]; omega
  · omega
  · omega
  · exact ltK_false.1 (h1 _ _ (by omega) (by omega) (by omega))
  · omega
  · have := ltK_false.1 (hl p (by omega) (by omega))
    have e : q - i + m = m := by omega
    rw [e]; exact this
  · exact ltK_false.1 (h1 _ _ (by omega) (by omega) (by omega))
  · exact ltK_false.1 (h1 _ _ (by omega) (by omega) (by omega))

set_option maxHeartbeats 2000000 in
theorem t85down (blk off cap a m b : Nat) (d : Array Nat) (w : World) (hH : Holds fe w blk off d) (hF : Fit d) (ham : a + 1 < m) (hbm : b = m + 1) (hb : b ≤ d.size) (hsz : d.size < 4611686018427387904) (h1 : SortedIn ltK a m d) :
    Calls Tryz.prog 251 #[.slice (some ⟨blk, off, none⟩) d.size cap, .int .i64 a, .int .i64 m, .int .i64 b, ord29] w (Merges w blk off a b d) := by
  have HH : Hid (Holds fe w blk off d) := hH
  have HST : Hid (w = (putRow fe w blk off d).drewN 0) := (putRow_self fe w blk off d hH).symm
  have HF : Hid (Fit d) := hF
  have H1 : Hid (SortedIn ltK a m d) := h1
  clear hF h1
  obtain ⟨y, hy⟩ : ∃ y, d[m]! = y := ⟨_, rfl⟩
  obtain ⟨ca, fa⟩ := hH m (by omega)
  rw [hy] at ca
  have bya := fit_at HF.out rfl (show m < d.size by omega) hy
  have HY : Hid _ := hy
  clear hH hy
  have am : ¬ (m : Int) - (a : Int) = 1 := by omega
  have am' : ((m : Int) - (a : Int) == 1) = false := by rw [beq_eq_false_iff_ne]; exact am
  have bm : (b : Int) - (m : Int) = 1 := by omega
  have hmb : m < b := by omega
  have HM : Hid (b = m + 1) := hbm
  clear hbm
  go_enter Tryz.func251, Tryz.ntmps251
  go_wp2
  go_loopw [14, 15] (fun vi vj wr => ∃ (i j n : Nat), vi = .int .i64 i ∧ vj = .int .i64 j ∧ a ≤ i ∧ i ≤ j ∧ j ≤ m ∧ wr = w.drewN n ∧ Hid (∀ x, a ≤ x → x < i → ltK d[m]! d[x]! = false) ∧ Hid (∀ x, j ≤ x → x < m → ltK d[m]! d[x]! = true)) (fun vi vj _ => (intOf vj).toNat - (intOf vi).toNat)
  case atStart => exact ⟨a, m, 0, rfl, rfl, by omega, by omega, by omega, rfl, fun x h1 h2 => by omega, fun x h1 h2 => by omega⟩
  case round =>
    obtain ⟨i, j, n, rfl, rfl, hi, hij, hjb, hw, HL, HG⟩ := hrel
    rename World => W1
    have HW : Hid (W1 = w.drewN n) := hw
    by_cases hlt : i < j
    · obtain ⟨c, hc⟩ : ∃ c, (i + j) / 2 = c := ⟨_, rfl⟩
      have ec : ((i : Int) + (j : Int)) / 2 = (c : Int) := by omega
      obtain ⟨x, hx⟩ : ∃ x, d[c]! = x := ⟨_, rfl⟩
      obtain ⟨cc, fc⟩ := HH.out c (by omega)
      rw [hx] at cc
      have bx := fit_at HF.out rfl (show c < d.size by omega) hx
      have HX : Hid _ := hx
      have cc1 : W1.cell? ⟨blk, off + c, none⟩ = some (.float .f64 x) := by rw [hw]; exact cc
      have ca1 : W1.cell? ⟨blk, off + m, none⟩ = some (.float .f64 y) := by rw [hw]; exact ca
      have hcz : (c : Int) < (d.size : Int) := by omega
      have haz : (m : Int) < (d.size : Int) := by omega
      have hc1 : i ≤ c := by omega
      have hc2 : c < j := by omega
      clear cc fc ca fa hx hw hc
      by_cases hlv : cmpK y x < 0
      · go_wp2_with fail
        go_quiet (first | (go_at_call 216; refine Calls.quiet_of (cmp29 bya bx _)))
        go_wp2
        go_roundw
        case rel =>
          refine ⟨i, c, n + nq, rfl, rfl, by omega, by omega, by omega, by rw [HW.out, World.drewN_drewN], HL, fun z h1 h3 => ?_⟩
          have hcc := ltK_true.1 ((cmpK_neg y x).1 hlv)
          rw [ltK_true, HY.out]
          rcases Nat.lt_or_ge c z with hz | hz
          · have := ltK_false.1 (H1.out c z (by omega) hz (by omega))
            rw [HX.out] at this
            omega
          · obtain rfl : z = c := by omega
            rw [HX.out]; exact hcc
        case measure => simp [intOf]; omega
      · have hlv2 : (0 : Int) ≤ cmpK y x := by omega
        have hlv3 : decide (cmpK y x < 0) = false := decide_eq_false hlv
        go_wp2_with fail
        go_quiet (first | (go_at_call 216; refine Calls.quiet_of (cmp29 bya bx _)))
        go_wp2
        go_roundw
        case rel =>
          refine ⟨c + 1, j, n + nq, by go_num, rfl, by omega, by omega, by omega, by rw [HW.out, World.drewN_drewN], fun z h1 h3 => ?_, HG⟩
          have hcc : ltK y x = false := Bool.eq_false_iff.2 fun h => by have := (cmpK_neg y x).2 h; omega
          have hcc := ltK_false.1 hcc
          rw [ltK_false, HY.out]
          rcases Nat.lt_or_ge z c with hz | hz
          · have := ltK_false.1 (H1.out z c (by omega) hz (by omega))
            rw [HX.out] at this
            omega
          · obtain rfl : z = c := by omega
            rw [HX.out]; exact hcc
        case measure => simp [intOf]; omega
    · obtain rfl : i = j := by omega
      clear ca fa hw
      go_wp2
      go_loopw [17] (fun vk wr => ∃ (k n : Nat) (dk : Array Nat), vk = .int .i64 k ∧ i ≤ k ∧ k ≤ m ∧ wr = (putRow fe w blk off dk).drewN n ∧ dk.size = d.size ∧ Hid (PermIn a b d dk) ∧ Hid (Rot k m (m + 1) d dk)) (fun vk _ => (intOf vk).toNat)
      case atStart =>
        refine ⟨m, n, d, rfl, by omega, by omega, ?_, rfl, permIn_refl _ _ _, down_start m d⟩
        rw [HW.out, putRow_self fe w blk off d HH.out]
      case round =>
        clear HW
        obtain ⟨k, n2, dk, rfl, hk, hki, hw, hs, HP, HR⟩ := hrel
        rename World => W2
        have HW : Hid (W2 = (putRow fe w blk off dk).drewN n2) := hw
        by_cases hlt2 : i < k
        · obtain ⟨kp, rfl⟩ : ∃ kp, k = kp + 1 := ⟨k - 1, by omega⟩
          obtain ⟨x, hx⟩ : ∃ x, dk[kp]! = x := ⟨_, rfl⟩
          obtain ⟨z, hz⟩ : ∃ z, dk[kp + 1]! = z := ⟨_, rfl⟩
          obtain ⟨cx, fx⟩ := fam HW.out HH.out hs (show kp < d.size by omega) hx
          obtain ⟨cz, fz⟩ := fam HW.out HH.out hs (show kp + 1 < d.size by omega) hz
          have HX : Hid _ := hx
          have HZ : Hid _ := hz
          clear hw hx hz
          have hwp : IntKind.i64.wrap (kp : Int) = (kp : Int) := by rw [IntKind.wrap_i64]; omega
          have jz : (kp : Int) + 1 < (d.size : Int) := by omega
          have jz1 : (kp : Int) < (d.size : Int) := by omega
          have p0 : (0 : Int) ≤ (kp : Int) + 1 := by omega
          have hik : (i : Int) < (kp : Int) + 1 := by omega
          obtain ⟨j1, hj1⟩ : ∃ j1, j1 = kp + 1 := ⟨_, rfl⟩
          have e0 : ((kp : Int) + 1).toNat = j1 := by omega
          rw [← hj1] at cz fz
          have J1 : Hid (j1 = kp + 1) := hj1
          clear hj1
          go_wp2
          go_big_region
          all_goals go_wp2
          go_roundw
          case rel =>
            refine ⟨kp, n2 + 1, swp dk (kp + 1) kp, by first | rfl | go_num, by omega, by omega, ?_, by rw [size_swp]; exact hs, ?_, ?_⟩
            · rw [J1.out, HW.out, ← HX.out, ← HZ.out]
              exact swap_row w blk off dk n2 (kp + 1) kp (by omega) (by omega)
            · exact permIn_trans _ _ _ _ _ HP.out (swp_permIn _ _ _ _ _ (by omega) (by omega) (by omega) (by omega) (by omega))
            · exact down_step HR.out (by omega) (by omega)
          case measure => simp [intOf]
        · obtain rfl : i = k := by omega
          go_wp2
          go_end0
          refine ⟨rfl, n2, dk, by first | exact hw | rfl, HP.out, ?_⟩
          rw [HM.out]
          exact down_sorted HR.out (by omega) (by omega) H1.out HL.out HG.out
end Go.Proofs.YtflngnnoibkkoaaGreat.Cf
/- The merge in place of two sorted neighbours: what its halves are, in plain words. -/
namespace Go.Proofs.YtflngnnoibkkoaaGreat.Cf
open Go.ChangeShapes Go.WideShapes Go.ChangeAt Go.RowKit Go.Fl Go.Sort
set_option maxRecDepth 200000
set_option maxHeartbeats 8000000

/-- Behind the turn: four sorted runs, the first two nowhere above the last two. -/
def Runs (a s mid en b : Nat) (d d1 : Array Nat) : Prop := PermIn a b d d1 ∧ SortedIn ltK a s d1 ∧ SortedIn ltK s mid d1 ∧ SortedIn ltK mid en d1 ∧ SortedIn ltK en b d1 ∧ ∀ x y, a ≤ x → x < mid → mid ≤ y → y < b → key d1[x]! ≤ key d1[y]!
/-- .. the first two merged. -/
def Runs2 (a mid en b : Nat) (d d1 : Array Nat) : Prop := PermIn a b d d1 ∧ SortedIn ltK a mid d1 ∧ SortedIn ltK mid en d1 ∧ SortedIn ltK en b d1 ∧ ∀ x y, a ≤ x → x < mid → mid ≤ y → y < b → key d1[x]! ≤ key d1[y]!

theorem sortedLE {a b : Nat} {d : Array Nat} (h : SortedIn ltK a b d) {x y : Nat} (h1 : a ≤ x) (h2 : x ≤ y) (h3 : y < b) : key d[x]! ≤ key d[y]! := by
  rcases Nat.lt_or_ge x y with hl | hg
  · exact ltK_false.1 (h x y h1 hl h3)
  · obtain rfl : x = y := by omega
    exact Nat.le_refl _
theorem sorted_of {a b : Nat} {d : Array Nat} (h : ∀ x y, a ≤ x → x < y → y < b → key d[x]! ≤ key d[y]!) : SortedIn ltK a b d := fun x y h1 h2 h3 => ltK_false.2 (h x y h1 h2 h3)

theorem runs_of {a m b s mid en : Nat} {d d1 : Array Nat} (hR : Rot s m en d d1) (hP : PermIn a b d d1) (h1 : SortedIn ltK a m d) (h2 : SortedIn ltK m b d) (has : a ≤ s) (hsm : s ≤ m) (hsd : s ≤ mid) (hen : en + s = mid + m) (hme : m ≤ en) (heb : en ≤ b)
    (c1 : s = a ∨ en = b ∨ key d[s - 1]! ≤ key d[en]!) (c2 : s = m ∨ en = m ∨ key d[en - 1]! < key d[s]!) : Runs a s mid en b d d1 := by
  have lo : ∀ x, x < s → d1[x]! = d[x]! := fun x hx => by rw [hR.2, if_neg (by omega), if_neg (by omega)]
  have la : ∀ x, s ≤ x → x < mid → d1[x]! = d[x - s + m]! := fun x h hx => by rw [hR.2, if_pos (by omega)]
  have lb : ∀ x, mid ≤ x → x < en → d1[x]! = d[x - (en - m)]! := fun x h hx => by rw [hR.2, if_neg (by omega), if_pos (by omega)]
  have lc : ∀ x, en ≤ x → d1[x]! = d[x]! := fun x h => by rw [hR.2, if_neg (by omega), if_neg (by omega)]
  refine ⟨hP, sorted_of fun x y k1 k2 k3 => ?_, sorted_of fun x y k1 k2 k3 => ?_, sorted_of fun x y k1 k2 k3 => ?_, sorted_of fun x y k1 k2 k3 => ?_, fun x y k1 k2 k3 k4 => ?_⟩
  · rw [lo x (by omega), lo y (by omega)]; exact sortedLE h1 (by omega) (by omega) (by omega)
  · rw [la x (by omega) (by omega), la y (by omega) (by omega)]; exact sortedLE h2 (by omega) (by omega) (by omega)
  · rw [lb x (by omega) (by omega), lb y (by omega) (by omega)]; exact sortedLE h1 (by omega) (by omega) (by omega)
  · rw [lc x (by omega), lc y (by omega)]; exact sortedLE h2 (by omega) (by omega) (by omega)
  · rcases Nat.lt_or_ge x s with hx | hx <;> rcases Nat.lt_or_ge y en with hy | hy
    · rw [lo x hx, lb y k3 hy]; exact sortedLE h1 (by omega) (by omega) (by omega)
    · rw [lo x hx, lc y hy]
      rcases c1 with c | c | c
      · omega
      · omega
      · have e1 := sortedLE h1 (show a ≤ x by omega) (show x ≤ s - 1 by omega) (by omega)
        have e2 := sortedLE h2 (show m ≤ en by omega) hy k4
        omega
    · rw [la x hx k2, lb y k3 hy]
      rcases c2 with c | c | c
      · omega
      · omega
      · have e1 := sortedLE h2 (show m ≤ x - s + m by omega) (show x - s + m ≤ en - 1 by omega) (by omega)
        have e2 := sortedLE h1 (show a ≤ s by omega) (show s ≤ y - (en - m) by omega) (by omega)
        omega
    · rw [la x hx k2, lc y hy]; exact sortedLE h2 (by omega) (by omega) (by omega)
/-- No turn is called for. -/
theorem rot_none {s m en : Nat} (d : Array Nat) (h : s = m ∨ en = m) (h1 : s ≤ m) (h2 : m ≤ en) : Rot s m en d d := ⟨rfl, fun x => by
  repeat' split
  all_goals first | omega | rfl | (congr 1; omega)⟩
theorem sorted_congr {a b : Nat} {d d' : Array Nat} (h : SortedIn ltK a b d) (he : ∀ x, a ≤ x → x < b → d'[x]! = d[x]!) : SortedIn ltK a b d' :=
  sorted_of fun x y h1 h2 h3 => by rw [he x (by omega) (by omega), he y (by omega) (by omega)]; exact sortedLE h h1 (by omega) h3
/-- The first half is one run. -/
theorem runs_left {a s mid en b : Nat} {d d1 : Array Nat} (h : Runs a s mid en b d d1) (hs : s ≤ a ∨ mid ≤ s) : Runs2 a mid en b d d1 := by
  obtain ⟨hP, h1, h2, h3, h4, hc⟩ := h
  refine ⟨hP, ?_, h3, h4, hc⟩
  rcases hs with hs | hs
  · exact fun x y k1 k2 k3 => h2 x y (by omega) k2 k3
  · exact fun x y k1 k2 k3 => h1 x y k1 k2 (by omega)
theorem runs_merged {a s mid en b : Nat} {d d1 d2 : Array Nat} (h : Runs a s mid en b d d1) (hP : PermIn a mid d1 d2) (hS : SortedIn ltK a mid d2) (hmb : mid ≤ b) (hme : mid ≤ en) (hb : b ≤ d.size) : Runs2 a mid en b d d2 := by
  obtain ⟨hP1, h1, h2, h3, h4, hc⟩ := h
  have hs : d1.size = d.size := hP1.1
  have out : ∀ x, mid ≤ x → d2[x]! = d1[x]! := fun x hx => hP.2.1 x (Or.inr hx)
  refine ⟨permIn_trans _ _ _ _ _ hP1 (permIn_mono _ _ _ _ _ _ (Nat.le_refl _) hmb (by omega) hP), hS, sorted_congr h3 fun x k1 k2 => out x (by omega), sorted_congr h4 fun x k1 k2 => out x (by omega), fun x y k1 k2 k3 k4 => ?_⟩
  rw [out y k3]
  exact permIn_all d1 d2 a mid (fun z => key z ≤ key d1[y]!) (by omega) hP (fun i i1 i2 => hc i y i1 i2 k3 k4) x k1 k2
theorem runs_end {a mid en b : Nat} {d d1 d2 : Array Nat} (h : Runs2 a mid en b d d1) (hP : PermIn mid b d1 d2) (hS : SortedIn ltK mid b d2) (hb : b ≤ d.size) (hab : a ≤ mid) : PermIn a b d d2 ∧ SortedIn ltK a b d2 := by
  obtain ⟨hP1, h1, h3, h4, hc⟩ := h
  have hs : d1.size = d.size := hP1.1
  have out : ∀ x, x < mid → d2[x]! = d1[x]! := fun x hx => hP.2.1 x (Or.inl hx)
  refine ⟨permIn_trans _ _ _ _ _ hP1 (permIn_mono _ _ _ _ _ _ hab (Nat.le_refl _) (by omega) hP), sorted_of fun x y k1 k2 k3 => ?_⟩
  rcases Nat.lt_or_ge y mid with hy | hy
  · rw [out x (by omega), out y hy]; exact sortedLE h1 k1 (by omega) hy
  · rcases Nat.lt_or_ge x mid with hx | hx
    · rw [out x hx]
      exact permIn_all d1 d2 mid b (fun z => key d1[x]! ≤ key z) (by omega) hP (fun i i1 i2 => hc x i k1 hx i1 i2) y hy k3
    · exact sortedLE hS hx (by omega) k3
theorem runs_right {a mid en b : Nat} {d d1 : Array Nat} (h : Runs2 a mid en b d d1) (he : en ≤ mid ∨ b ≤ en) : SortedIn ltK mid b d1 := by
  obtain ⟨hP1, h1, h3, h4, hc⟩ := h
  rcases he with he | he
  · exact fun x y k1 k2 k3 => h4 x y (by omega) k2 k3
  · exact fun x y k1 k2 k3 => h3 x y k1 k2 (by omega)
end Go.Proofs.YtflngnnoibkkoaaGreat.Cf
/- The merge in place of two sorted neighbours, of any lengths. -/
namespace Go.Proofs.YtflngnnoibkkoaaGreat.Cf
open Go.ChangeShapes Go.WideShapes Go.ChangeAt Go.RowKit Go.Fl Go.Sort
set_option maxRecDepth 200000
set_option maxHeartbeats 8000000
attribute [local go_sem] run_store_float call35 call46 run_neg fold_eq fold_ne fold_lt fold_gt abs_eq

/-- The merge's contract, of parts of at most n places. -/
def Sym (n : Nat) : Prop := ∀ (blk off cap a m b N : Nat) (d : Array Nat) (w : World), d.size = N → Holds fe w blk off d → Fit d → a < m → m < b → b ≤ N → N < 4611686018427387904 → SortedIn ltK a m d → SortedIn ltK m b d → b - a ≤ n →
    Calls Tryz.prog 251 #[.slice (some ⟨blk, off, none⟩) N cap, .int .i64 a, .int .i64 m, .int .i64 b, ord29] w (Merges w blk off a b d)

/-- Worlds that are the row's: as the steps leave them. -/
def St0 (w : World) (blk off : Nat) (d : Array Nat) (W : World) : Prop := ∃ k, W = (putRow fe w blk off d).drewN k
def St1 (w : World) (blk off a s mid en b : Nat) (d : Array Nat) (W : World) : Prop := ∃ k d1, W = (putRow fe w blk off d1).drewN k ∧ Runs a s mid en b d d1
def St2 (w : World) (blk off a mid en b : Nat) (d : Array Nat) (W : World) : Prop := ∃ k d1, W = (putRow fe w blk off d1).drewN k ∧ Runs2 a mid en b d d1
def St3 (w : World) (blk off a b : Nat) (d : Array Nat) (W : World) : Prop := ∃ k d1, W = (putRow fe w blk off d1).drewN k ∧ PermIn a b d d1 ∧ SortedIn ltK a b d1

/-- What holds where the search has ended. -/
structure Found (a m b s mid en : Nat) (d : Array Nat) : Prop where
  h1 : SortedIn ltK a m d
  h2 : SortedIn ltK m b d
  has : a ≤ s
  hsm : s ≤ m
  hsd : s ≤ mid
  hen : en + s = mid + m
  hme : m ≤ en
  heb : en ≤ b
  c1 : s = a ∨ en = b ∨ key d[s - 1]! ≤ key d[en]!
  c2 : s = m ∨ en = m ∨ key d[en - 1]! < key d[s]!
  hmid : mid = (a + b) / 2
  hab : a < b
  hb : b ≤ d.size
  hsz : d.size < 4611686018427387904

theorem st1_none {w W : World} {blk off a m b s mid en : Nat} {d : Array Nat} (h0 : St0 w blk off d W) (F : Found a m b s mid en d) (hc : ¬ (s < m ∧ m < en)) : Hid (St1 w blk off a s mid en b d W) := by
  obtain ⟨k, hk⟩ := h0
  have := F.hsm; have := F.hme
  exact ⟨k, d, hk, runs_of (rot_none d (by omega) F.hsm F.hme) (permIn_refl _ _ _) F.h1 F.h2 F.has F.hsm F.hsd F.hen F.hme F.heb F.c1 F.c2⟩
theorem st1_turn {w W : World} {blk off cap a m b s mid en : Nat} {d : Array Nat} {f : Value} (hH : Hid (Holds fe w blk off d)) (h0 : Hid (St0 w blk off d W)) (HF : Hid (Found a m b s mid en d)) (hc : s < m ∧ m < en) :
    Calls Tryz.prog 256 #[.slice (some ⟨blk, off, none⟩) d.size cap, .int .i64 s, .int .i64 m, .int .i64 en, f] W fun e w' => e = .returned (.tuple #[]) ∧ Hid (St1 w blk off a s mid en b d w') := by
  obtain ⟨k, hk⟩ := h0.out
  have F := HF.out
  have := F.hb; have := F.heb; have := F.has
  refine (t87 blk off cap s m en d f W (by rw [hk]; exact holds_putRow fe w blk off d d hH.out rfl) hc.1 hc.2 (by omega) F.hsz).mono fun e w' ⟨he, k', d', hw, hR, hP⟩ => ⟨he, ?_⟩
  refine ⟨k + k', d', ?_, runs_of hR (permIn_mono _ _ _ _ _ _ F.has F.heb F.hb hP) F.h1 F.h2 F.has F.hsm F.hsd F.hen F.hme F.heb F.c1 F.c2⟩
  rw [hw, hk, row_on _ _ _ _ _ _ _ hR.1]
theorem st2_none {w W : World} {blk off a s mid en b : Nat} {d : Array Nat} (h1 : St1 w blk off a s mid en b d W) (hc : ¬ (a < s ∧ s < mid)) : Hid (St2 w blk off a mid en b d W) := by
  obtain ⟨k, d1, hk, hr⟩ := h1
  exact ⟨k, d1, hk, runs_left hr (by omega)⟩
theorem st2_call {n : Nat} (IH : Hid (Sym n)) {w W : World} {blk off cap a m b s mid en : Nat} {d : Array Nat} (hH : Hid (Holds fe w blk off d)) (hF : Hid (Fit d)) (h1 : Hid (St1 w blk off a s mid en b d W)) (HF : Hid (Found a m b s mid en d)) (hc : a < s ∧ s < mid) (hn : b - a ≤ n + 1) :
    Calls Tryz.prog 251 #[.slice (some ⟨blk, off, none⟩) d.size cap, .int .i64 a, .int .i64 s, .int .i64 mid, ord29] W fun e w' => e = .returned (.tuple #[]) ∧ Hid (St2 w blk off a mid en b d w') := by
  obtain ⟨k, d1, hk, hr⟩ := h1.out
  have F := HF.out
  have hb := F.hb; have := F.heb; have := F.has; have hm := F.hmid; have := F.hab; have := F.hen; have := F.hsm
  have hs1 : d1.size = d.size := hr.1.1
  refine (IH.out blk off cap a s mid d.size d1 W hs1 (by rw [hk]; exact holds_putRow fe w blk off d d1 hH.out hs1) (hF.out.perm F.hb hr.1) hc.1 hc.2 (by omega) F.hsz hr.2.1 hr.2.2.1 (by omega)).mono fun e w' ⟨he, k', d', hw, hP, hS⟩ => ⟨he, ?_⟩
  refine ⟨k + k', d', ?_, runs_merged hr hP hS (by omega) (by omega) F.hb⟩
  rw [hw, hk, row_on _ _ _ _ _ _ _ hP.1]
theorem st3_none {w W : World} {blk off a m s mid en b : Nat} {d : Array Nat} (h2 : St2 w blk off a mid en b d W) (F : Found a m b s mid en d) (hc : ¬ (mid < en ∧ en < b)) : St3 w blk off a b d W := by
  obtain ⟨k, d1, hk, hr⟩ := h2
  have hb := F.hb; have := F.heb; have := F.has; have hm := F.hmid; have := F.hab; have := F.hen; have := F.hsm
  obtain ⟨hP, hS⟩ := runs_end hr (permIn_refl d1 mid b) (runs_right hr (by omega)) F.hb (by omega)
  exact ⟨k, d1, hk, hP, hS⟩
theorem st3_call {n : Nat} (IH : Hid (Sym n)) {w W : World} {blk off cap a m b s mid en : Nat} {d : Array Nat} (hH : Hid (Holds fe w blk off d)) (hF : Hid (Fit d)) (h2 : Hid (St2 w blk off a mid en b d W)) (HF : Hid (Found a m b s mid en d)) (hc : mid < en ∧ en < b) (hn : b - a ≤ n + 1) (ham : a < mid) :
    Calls Tryz.prog 251 #[.slice (some ⟨blk, off, none⟩) d.size cap, .int .i64 mid, .int .i64 en, .int .i64 b, ord29] W fun e w' => e = .returned (.tuple #[]) ∧ Hid (St3 w blk off a b d w') := by
  obtain ⟨k, d1, hk, hr⟩ := h2.out
  have F := HF.out
  have hb := F.hb; have := F.heb; have := F.has; have hm := F.hmid; have := F.hab; have := F.hen; have := F.hsm
  have hs1 : d1.size = d.size := hr.1.1
  refine (IH.out blk off cap mid en b d.size d1 W hs1 (by rw [hk]; exact holds_putRow fe w blk off d d1 hH.out hs1) (hF.out.perm F.hb hr.1) hc.1 hc.2 (by omega) F.hsz hr.2.2.1 hr.2.2.2.1 (by omega)).mono fun e w' ⟨he, k', d', hw, hP, hS⟩ => ⟨he, ?_⟩
  obtain ⟨hP3, hS3⟩ := runs_end hr hP hS F.hb (by omega)
  refine ⟨k + k', d', ?_, hP3, hS3⟩
  rw [hw, hk, row_on _ _ _ _ _ _ _ hP.1]
end Go.Proofs.YtflngnnoibkkoaaGreat.Cf

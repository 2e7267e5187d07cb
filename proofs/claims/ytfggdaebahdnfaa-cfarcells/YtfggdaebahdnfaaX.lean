/- The merge in place of two sorted neighbours, of any lengths. -/
import Derived.Test.YtfggdaebahdnfaaW
namespace Go.Proofs.Ytfggdaebahdnfaa
open Go.ChangeShapes Go.WideShapes Go.ChangeAt Go.RowKit Go.Fl Go.Sort
attribute [local go_sem] run_store_float call35 call46 run_neg fold_eq fold_ne fold_lt fold_gt abs_eq

/-- The merge's contract, of parts of at most n places. -/
def Sym (n : Nat) : Prop := ∀ (blk off cap a m b N : Nat) (d : Array Nat) (w : World), d.size = N → Holds fe w blk off d → Fit d → a < m → m < b → b ≤ N → N < 4611686018427387904 → SortedIn ltK a m d → SortedIn ltK m b d → b - a ≤ n →
    Calls Try.prog 85 #[.slice (some ⟨blk, off, none⟩) N cap, .int .i64 a, .int .i64 m, .int .i64 b, ord29] w (Merges w blk off a b d)

/-- Worlds that are the row's: as the steps leave them. -/
def St0 (w : World) (blk off : Nat) (d : Array Nat) (W : World) : Prop := ∃ k, W = (putRow fe w blk off d).drewN k
def St1 (w : World) (blk off a s mid en b : Nat) (d : Array Nat) (W : World) : Prop := ∃ k d1, W = (putRow fe w blk off d1).drewN k ∧ Runs a s mid en b d d1
def St2 (w : World) (blk off a mid en b : Nat) (d : Array Nat) (W : World) : Prop := ∃ k d1, W = (putRow fe w blk off d1).drewN k ∧ Runs2 a mid en b d d1
def St3 (w : World) (blk off a b : Nat) (d : Array Nat) (W : World) : Prop := ∃ k d1, W = (putRow fe w blk off d1).drewN k ∧ PermIn a b d d1 ∧ SortedIn ltK a b d1

/-- What holds where the search has ended. -/
structure Found (a m b s mid en : Nat) (d : Array Nat) : Prop where
  h1 : SortedIn ltK a m d
  h2 : SortedIn ltK m b d
  has : a ≤ s
  hsm : s ≤ m
  hsd : s ≤ mid
  hen : en + s = mid + m
  hme : m ≤ en
  heb : en ≤ b
  c1 : s = a ∨ en = b ∨ key d[s - 1]! ≤ key d[en]!
  c2 : s = m ∨ en = m ∨ key d[en - 1]! < key d[s]!
  hmid : mid = (a + b) / 2
  hab : a < b
  hb : b ≤ d.size
  hsz : d.size < 4611686018427387904

theorem st1_none {w W : World} {blk off a m b s mid en : Nat} {d : Array Nat} (h0 : St0 w blk off d W) (F : Found a m b s mid en d) (hc : ¬ (s < m ∧ m < en)) : Hid (St1 w blk off a s mid en b d W) := by
  obtain ⟨k, hk⟩ := h0
  have := F.hsm; have := F.hme
  exact ⟨k, d, hk, runs_of (rot_none d (by omega) F.hsm F.hme) (permIn_refl _ _ _) F.h1 F.h2 F.has F.hsm F.hsd F.hen F.hme F.heb F.c1 F.c2⟩
theorem st1_turn {w W : World} {blk off cap a m b s mid en : Nat} {d : Array Nat} {f : Value} (hH : Hid (Holds fe w blk off d)) (h0 : Hid (St0 w blk off d W)) (HF : Hid (Found a m b s mid en d)) (hc : s < m ∧ m < en) :
    Calls Try.prog 87 #[.slice (some ⟨blk, off, none⟩) d.size cap, .int .i64 s, .int .i64 m, .int .i64 en, f] W fun e w' => e = .returned (.tuple #[]) ∧ Hid (St1 w blk off a s mid en b d w') := by
  obtain ⟨k, hk⟩ := h0.out
  have F := HF.out
  have := F.hb; have := F.heb; have := F.has
  refine (t87 blk off cap s m en d f W (by rw [hk]; exact holds_putRow fe w blk off d d hH.out rfl) hc.1 hc.2 (by omega) F.hsz).mono fun e w' ⟨he, k', d', hw, hR, hP⟩ => ⟨he, ?_⟩
  refine ⟨k + k', d', ?_, runs_of hR (permIn_mono _ _ _ _ _ _ F.has F.heb F.hb hP) F.h1 F.h2 F.has F.hsm F.hsd F.hen F.hme F.heb F.c1 F.c2⟩
  rw [hw, hk, row_on _ _ _ _ _ _ _ hR.1]
theorem st2_none {w W : World} {blk off a s mid en b : Nat} {d : Array Nat} (h1 : St1 w blk off a s mid en b d W) (hc : ¬ (a < s ∧ s < mid)) : Hid (St2 w blk off a mid en b d W) := by
  obtain ⟨k, d1, hk, hr⟩ := h1
  exact ⟨k, d1, hk, runs_left hr (by omega)⟩
theorem st2_call {n : Nat} (IH : Hid (Sym n)) {w W : World} {blk off cap a m b s mid en : Nat} {d : Array Nat} (hH : Hid (Holds fe w blk off d)) (hF : Hid (Fit d)) (h1 : Hid (St1 w blk off a s mid en b d W)) (HF : Hid (Found a m b s mid en d)) (hc : a < s ∧ s < mid) (hn : b - a ≤ n + 1) :
    Calls Try.prog 85 #[.slice (some ⟨blk, off, none⟩) d.size cap, .int .i64 a, .int .i64 s, .int .i64 mid, ord29] W fun e w' => e = .returned (.tuple #[]) ∧ Hid (St2 w blk off a mid en b d w') := by
  obtain ⟨k, d1, hk, hr⟩ := h1.out
  have F := HF.out
  have hb := F.hb; have := F.heb; have := F.has; have hm := F.hmid; have := F.hab; have := F.hen; have := F.hsm
  have hs1 : d1.size = d.size := hr.1.1
  refine (IH.out blk off cap a s mid d.size d1 W hs1 (by rw [hk]; exact holds_putRow fe w blk off d d1 hH.out hs1) (hF.out.perm F.hb hr.1) hc.1 hc.2 (by omega) F.hsz hr.2.1 hr.2.2.1 (by omega)).mono fun e w' ⟨he, k', d', hw, hP, hS⟩ => ⟨he, ?_⟩
  refine ⟨k + k', d', ?_, runs_merged hr hP hS (by omega) (by omega) F.hb⟩
  rw [hw, hk, row_on _ _ _ _ _ _ _ hP.1]
theorem st3_none {w W : World} {blk off a m s mid en b : Nat} {d : Array Nat} (h2 : St2 w blk off a mid en b d W) (F : Found a m b s mid en d) (hc : ¬ (mid < en ∧ en < b)) : St3 w blk off a b d W := by
  obtain ⟨k, d1, hk, hr⟩ := h2
  have hb := F.hb; have := F.heb; have := F.has; have hm := F.hmid; have := F.hab; have := F.hen; have := F.hsm
  obtain ⟨hP, hS⟩ := runs_end hr (permIn_refl d1 mid b) (runs_right hr (by omega)) F.hb (by omega)
  exact ⟨k, d1, hk, hP, hS⟩
theorem st3_call {n : Nat} (IH : Hid (Sym n)) {w W : World} {blk off cap a m b s mid en : Nat} {d : Array Nat} (hH : Hid (Holds fe w blk off d)) (hF : Hid (Fit d)) (h2 : Hid (St2 w blk off a mid en b d W)) (HF : Hid (Found a m b s mid en d)) (hc : mid < en ∧ en < b) (hn : b - a ≤ n + 1) (ham : a < mid) :
    Calls Try.prog 85 #[.slice (some ⟨blk, off, none⟩) d.size cap, .int .i64 mid, .int .i64 en, .int .i64 b, ord29] W fun e w' => e = .returned (.tuple #[]) ∧ Hid (St3 w blk off a b d w') := by
  obtain ⟨k, d1, hk, hr⟩ := h2.out
  have F := HF.out
  have hb := F.hb; have := F.heb; have := F.has; have hm := F.hmid; have := F.hab; have := F.hen; have := F.hsm
  have hs1 : d1.size = d.size := hr.1.1
  refine (IH.out blk off cap mid en b d.size d1 W hs1 (by rw [hk]; exact holds_putRow fe w blk off d d1 hH.out hs1) (hF.out.perm F.hb hr.1) hc.1 hc.2 (by omega) F.hsz hr.2.2.1 hr.2.2.2.1 (by omega)).mono fun e w' ⟨he, k', d', hw, hP, hS⟩ => ⟨he, ?_⟩
  obtain ⟨hP3, hS3⟩ := runs_end hr hP hS F.hb (by omega)
  refine ⟨k + k', d', ?_, hP3, hS3⟩
  rw [hw, hk, row_on _ _ _ _ _ _ _ hP.1]
end Go.Proofs.Ytfggdaebahdnfaa

/- The float that has just n ahead of it: the program's. -/
import Derived.Test.YtfggdaebahdnfaaB
namespace Go.Proofs.Ytfggdaebahdnfaa
open Go.ChangeShapes Go.WideShapes Go.ChangeAt Go.RowKit Go.Fl Go.Sort
attribute [local go_sem] run_store_float call35 call46 run_neg fold_eq fold_ne fold_lt fold_gt abs_eq

/-- The keys in their order. -/
def keys (l : List Nat) : List Nat := (l.map key).mergeSort fun x y => decide (x ≤ y)
theorem keys_pair (l : List Nat) : (keys l).Pairwise fun x y => x ≤ y := by
  have h := List.pairwise_mergeSort (le := fun x y : Nat => decide (x ≤ y)) (fun a b c h1 h2 => by simp only [decide_eq_true_eq] at *; omega) (fun a b => by simp only [Bool.or_eq_true, decide_eq_true_eq]; omega) (l.map key)
  exact h.imp fun h => by simpa using h
theorem keys_of {l l' : List Nat} (hp : l'.Perm l) (hs : l'.Pairwise fun x y => key x ≤ key y) : l'.map key = keys l := by
  refine List.Perm.eq_of_pairwise (le := fun x y : Nat => x ≤ y) (fun a b _ _ h1 h2 => Nat.le_antisymm h1 h2) (List.pairwise_map.2 hs) (keys_pair l) ?_
  exact (hp.map key).trans (List.mergeSort_perm _ _).symm
theorem keys_length (l : List Nat) : (keys l).length = l.length := by simp [keys]
/-- The key that has just n ahead of it. -/
def kth (d : Array Nat) (n : Nat) : Nat := (keys d.toList)[n]!
theorem kth_of {d d' : Array Nat} {n : Nat} (hP : PermIn 0 d.size d d') (hS : SortedIn ltK 0 d.size d') (hn : n < d.size) : key d'[n]! = kth d n := by
  have hs : d'.size = d.size := hP.1
  have e1 : (d'.extract 0 d.size).toList = d'.toList := by rw [← hs]; simp
  have e2 : (d.extract 0 d.size).toList = d.toList := by simp
  have hp : d'.toList.Perm d.toList := by have := hP.2.2; rwa [e1, e2] at this
  have hw : d'.toList.Pairwise fun x y => key x ≤ key y := by
    rw [List.pairwise_iff_getElem]
    intro i j hi hj hij
    have hi' : i < d'.size := by simpa using hi
    have hj' : j < d'.size := by simpa using hj
    have := ltK_false.1 (hS i j (by omega) hij (by omega))
    rw [getElem!_pos d' i hi', getElem!_pos d' j hj'] at this
    simpa using this
  have hk := keys_of hp hw
  unfold kth
  rw [← hk]
  have hn' : n < d'.size := by omega
  rw [getElem!_pos d' n hn', getElem!_pos _ n (by simpa using hn')]
  simp
theorem kth_mono {d : Array Nat} {i j : Nat} (hij : i ≤ j) (hj : j < d.size) : kth d i ≤ kth d j := by
  have hl := keys_length d.toList
  have hj' : j < (keys d.toList).length := by rw [hl]; simpa using hj
  unfold kth
  rw [getElem!_pos _ i (by omega), getElem!_pos _ j hj']
  rcases Nat.lt_or_ge i j with h | h
  · exact List.pairwise_iff_getElem.1 (keys_pair d.toList) i j (by omega) hj' h
  · obtain rfl : i = j := by omega
    exact Nat.le_refl _
/-- What a call of Nth hands back. -/
def NR (w : World) (d : Array Nat) (k : Nat) (e : Ending) (w' : World) : Prop := ∃ x, e = .returned (.tuple #[.float .f64 x, .int .i64 0]) ∧ Hid (x < 2 ^ 64 ∧ key x = kth d k) ∧ Hid (Up w w')

theorem t70bad (p : Option Addr) (N cap : Nat) (n : Int) (w : World) (hn : n < 0 ∨ (N : Int) ≤ n) :
    Calls Try.prog 70 #[.slice p N cap, .int .i64 n] w fun e w' => e = .returned (.tuple #[.float .f64 0, .int .i64 2]) ∧ w' = w := by
  rcases Int.lt_or_le n 0 with h | h
  · go_enter Try.func70, Try.ntmps70
    go_wp2
    go_ret2
    exact ⟨rfl, rfl⟩
  · have h1 : ¬ n < 0 := by omega
    have h2 : (N : Int) ≤ n := by omega
    go_enter Try.func70, Try.ntmps70
    go_wp2
    go_ret2
    exact ⟨rfl, rfl⟩

theorem sort_own {b : Nat} {w0 w : World} {v : Value} {d : Array Nat} (HO : Hid (Own b w v d)) (hF : Fit d) (hsz : d.size < 1152921504606846976) (hb : w0.heap.size ≤ b) (HU : Hid (Up w0 w)) :
    Calls Try.prog 77 #[v, ord29] w fun e w' => e = .returned (.tuple #[]) ∧ ∃ g cap d', Hid (v = .slice (some ⟨g, 0, none⟩) d.size cap) ∧ Hid (Holds fe w' g 0 d') ∧ Hid (PermIn 0 d.size d d') ∧ Hid (SortedIn ltK 0 d.size d') ∧ Hid (Up w0 w') := by
  obtain ⟨g, cap, rfl, hg, _, hH⟩ := HO.out
  refine (t77 g 0 cap d w hH hF hsz).mono fun e w' ⟨he, k, d', hw, hP, hS⟩ => ⟨he, g, cap, d', rfl, ?_, hP, hS, ?_⟩
  · rw [hw]; exact holds_putRow fe w g 0 d d' hH hP.1
  · rw [hw]; exact (Up.putRow HU.out (by omega) 0 d').trans (Up.drewN _ _)

set_option maxHeartbeats 1000000 in
theorem t70 (blk off cap k : Nat) (d : Array Nat) (w : World) (hR : Reads w blk off d) (hF : Fit d) (hk : k < d.size) (hb : d.size * 8 ≤ 140737488355328) :
    Calls Try.prog 70 #[.slice (some ⟨blk, off, none⟩) d.size cap, .int .i64 k] w (NR w d k) := by
  have HR : Hid (Reads w blk off d) := hR
  have HF : Hid (Fit d) := hF
  clear hR hF
  have hk1 : ¬ (k : Int) < 0 := by omega
  have hk2 : (k : Int) < (d.size : Int) := by omega
  have hk3 : ¬ (d.size : Int) ≤ (k : Int) := by omega
  go_enter Try.func70, Try.ntmps70
  go_wp2_with (first
    | (go_at_call 76; refine (t76 _ _ _ _ _ HR.out (by omega) hb).mono ?_; rintro e w1 ⟨v, rfl, HO, HU⟩)
    | (go_at_call 77; refine (sort_own HO HF.out (by omega) (Nat.le_refl _) HU).mono ?_; rintro e w2 ⟨rfl, g, cap2, d2, HV, HH, HP, HS, HU2⟩; have hv := HV.out; subst hv; obtain ⟨x, hx⟩ : ∃ x, d2[k]! = x := ⟨_, rfl⟩; have hc := (HH.out k (by rw [HP.out.1]; exact hk)).1; rw [Nat.zero_add, hx] at hc; have HX : Hid _ := hx; clear HO hx))
  go_ret2
  refine ⟨x, rfl, ⟨?_, ?_⟩, HU2⟩
  · have h := HF.out.perm (Nat.le_refl _) HP.out
    have h2 := h k (by rw [HP.out.1]; exact hk)
    rw [HX.out] at h2
    exact h2
  · rw [← HX.out]; exact kth_of HP.out HS.out hk
end Go.Proofs.Ytfggdaebahdnfaa

/- The order of plots, without the program: a plot's rank as one number; places in order. -/
import Derived.Test.YtijfmaepoamkgabO
namespace Go.Proofs.Ytijfmaepoamkgab
open Go.Fl

/-- A plot by its floats' bits: Range, Speed, Power, Bearing, Time. -/
structure Plt where
  r : Nat
  s : Nat
  p : Nat
  b : Nat
  t : Nat
def Plt.zero : Plt := ⟨0, 0, 0, 0, 0⟩
structure Plt.Fit (q : Plt) : Prop where
  r : q.r < 2 ^ 64
  s : q.s < 2 ^ 64
  p : q.p < 2 ^ 64
  b : q.b < 2 ^ 64
  t : q.t < 2 ^ 64
/-- Where a Power stands: the greater one ahead, NaN last. -/
def fall (x : Nat) : Nat := if isN x then 2 ^ 64 - 1 else 2 ^ 64 - 1 - key x
theorem fall_lt (x : Nat) : fall x < 2 ^ 64 := by unfold fall; split <;> omega
def cmpN (a b : Nat) : Int := if a < b then -1 else if b < a then 1 else 0
def orI (x y : Int) : Int := if x ≠ 0 then x else y
theorem cmpN_pair {a b c d : Nat} (hc : c < 2 ^ 64) (hd : d < 2 ^ 64) : orI (cmpN a b) (cmpN c d) = cmpN (a * 2 ^ 64 + c) (b * 2 ^ 64 + d) := by
  unfold orI cmpN
  repeat' split
  all_goals first | rfl | omega
theorem orI_assoc (x y z : Int) : orI (orI x y) z = orI x (orI y z) := by
  unfold orI
  repeat' split
  all_goals first | rfl | omega
/-- The five numbers of a plot's rank as one. -/
def rk (p : Plt) : Nat := (((fall p.p * 2 ^ 64 + key p.r) * 2 ^ 64 + key p.s) * 2 ^ 64 + key p.b) * 2 ^ 64 + key p.t
/-- How two plots stand to each other. -/
def cmp5 (p q : Plt) : Int := orI (cmpN (fall p.p) (fall q.p)) (orI (cmpN (key p.r) (key q.r)) (orI (cmpN (key p.s) (key q.s)) (orI (cmpN (key p.b) (key q.b)) (cmpN (key p.t) (key q.t)))))
theorem cmp5_rk {p q : Plt} (hp : p.Fit) (hq : q.Fit) : cmp5 p q = cmpN (rk p) (rk q) := by
  unfold cmp5 rk
  rw [← cmpN_pair (key_lt hp.t) (key_lt hq.t), ← cmpN_pair (key_lt hp.b) (key_lt hq.b), ← cmpN_pair (key_lt hp.s) (key_lt hq.s), ← cmpN_pair (key_lt hp.r) (key_lt hq.r)]
  simp only [orI_assoc]
theorem cmpK_N (x y : Nat) : cmpK x y = cmpN (key x) (key y) := rfl
theorem key_pos {x : Nat} (h : isN x = false) (hx : x < 2 ^ 64) : 0 < key x := by
  have h1 := num_mod h
  unfold key
  rw [h]
  simp only [Bool.false_eq_true, if_false]
  split <;> omega
/-- The reference's way of Powers. -/
theorem power_cmp {x y : Nat} (hx : x < 2 ^ 64) (hy : y < 2 ^ 64) : (if isN x = true ∨ isN y = true then cmpK x y else cmpK y x) = cmpN (fall x) (fall y) := by
  unfold cmpK cmpN fall
  cases ex : isN x <;> cases ey : isN y
  · have h1 := key_num ex hx
    have h2 := key_num ey hy
    simp only [Bool.false_eq_true, or_self, if_false]
    generalize key x = u at *
    generalize key y = v at *
    repeat' split
    all_goals first | rfl | omega
  · have h1 := key_num ex hx
    have h0 := key_pos ex hx
    rw [key_nan ey]
    simp only [Bool.false_eq_true, false_or, if_false, if_true]
    generalize key x = u at *
    rw [if_pos (by omega), if_pos (by omega)]
  · have h1 := key_num ey hy
    have h0 := key_pos ey hy
    rw [key_nan ex]
    simp only [Bool.false_eq_true, or_false, if_false, if_true]
    generalize key y = v at *
    rw [if_neg (by omega), if_pos (by omega), if_neg (by omega), if_pos (by omega)]
  · rw [key_nan ex, key_nan ey]
    rfl
/-- Where the plot at a place stands. -/
def kAt (P : Nat → Plt) (i : Nat) : Nat := rk (P i) * 2 ^ 64 + i
theorem kAt_inj {P : Nat → Plt} {i j : Nat} (hi : i < 2 ^ 64) (hj : j < 2 ^ 64) (h : kAt P i = kAt P j) : i = j := by
  unfold kAt at h
  omega
theorem cmp_at {P : Nat → Plt} {i j : Nat} (hp : (P i).Fit) (hq : (P j).Fit) (hi : i < 2 ^ 64) (hj : j < 2 ^ 64) : orI (cmp5 (P i) (P j)) (cmpN i j) = cmpN (kAt P i) (kAt P j) := by
  rw [cmp5_rk hp hq, cmpN_pair hi hj]
  rfl
/-- The places of n plots, in order. -/
structure InOrd (P : Nat → Plt) (n : Nat) (o : List Nat) : Prop where
  perm : o.Perm (List.range n)
  sorted : o.Pairwise fun i j => kAt P i < kAt P j
theorem InOrd.length {P : Nat → Plt} {n : Nat} {o : List Nat} (h : InOrd P n o) : o.length = n := by
  rw [h.perm.length_eq, List.length_range]
theorem InOrd.mem {P : Nat → Plt} {n : Nat} {o : List Nat} (h : InOrd P n o) {i : Nat} : i ∈ o ↔ i < n := by
  rw [h.perm.mem_iff, List.mem_range]
theorem InOrd.at {P : Nat → Plt} {n : Nat} {o : List Nat} (h : InOrd P n o) {i : Nat} (hi : i < n) : o[i]! < n := by
  have : i < o.length := by rw [h.length]; exact hi
  rw [getElem!_pos o i this]
  exact h.mem.1 (List.getElem_mem this)
theorem sorted_eq {K : Nat → Nat} : ∀ {a b : List Nat}, a.Perm b → a.Pairwise (fun i j => K i < K j) → b.Pairwise (fun i j => K i < K j) → a = b
  | [], b, h, _, _ => by rw [List.nil_perm.1 h]
  | x :: a, [], h, _, _ => by have := h.length_eq; simp at this
  | x :: a, y :: b, h, h1, h2 => by
    rw [List.pairwise_cons] at h1 h2
    have hxy : x = y := by
      have hx : x ∈ y :: b := h.mem_iff.1 (by simp)
      have hy : y ∈ x :: a := h.mem_iff.2 (by simp)
      simp at hx hy
      rcases hx with e | hx
      · exact e
      · rcases hy with e | hy
        · exact e.symm
        · have := h1.1 y hy
          have := h2.1 x hx
          omega
    subst hxy
    rw [sorted_eq (List.Perm.cons_inv h) h1.2 h2.2]
theorem InOrd.uniq {P : Nat → Plt} {n : Nat} {a b : List Nat} (h : InOrd P n a) (k : InOrd P n b) : a = b := sorted_eq (h.perm.trans k.perm.symm) h.sorted k.sorted
theorem InOrd.nil (P : Nat → Plt) : InOrd P 0 [] := ⟨by simp, by simp⟩
/-- One place more, laid behind those that are not behind it: the first k stay. -/
theorem InOrd.ins {P : Nat → Plt} {n k : Nat} {o : List Nat} (h : InOrd P n o) (hk : k ≤ n) (hlow : ∀ j, j < k → kAt P o[j]! < kAt P n) (hhigh : ∀ j, k ≤ j → j < n → kAt P n < kAt P o[j]!) : InOrd P (n + 1) (o.take k ++ n :: o.drop k) := by
  constructor
  · rw [List.range_succ]
    refine (List.perm_middle).trans ?_
    rw [List.take_append_drop]
    exact (List.Perm.cons n h.perm).trans (List.perm_append_comm (l₁ := [n]) (l₂ := List.range n))
  · have hs := h.sorted
    rw [← List.take_append_drop k o, List.pairwise_append] at hs
    rw [List.pairwise_append, List.pairwise_cons]
    refine ⟨hs.1, ⟨fun a ha => ?_, hs.2.1⟩, fun a ha b hb => ?_⟩
    · obtain ⟨j, hj, rfl⟩ := List.getElem_of_mem ha
      simp at hj
      have := hhigh (k + j) (by omega) (by rw [h.length] at hj; omega)
      rw [getElem!_pos o (k + j) (by omega)] at this
      simpa using this
    · simp at hb
      rcases hb with rfl | hb
      · obtain ⟨j, hj, rfl⟩ := List.getElem_of_mem ha
        simp at hj
        have := hlow j (by omega)
        rw [getElem!_pos o j (by omega)] at this
        simpa using this
      · exact hs.2.2 a ha b hb
end Go.Proofs.Ytijfmaepoamkgab

/- Plots put into order, twice, and turned about: without the program. -/
import Derived.Test.YtijfmaepoamkgaaPg
import Derived.Test.YtijfmaepoamkgaaPg
namespace Go.Proofs.Ytijfmaepoamkgaa
open Go.Fl Ieee

theorem gt_key {x y : Nat} (hx : x < 2 ^ 64) (hy : y < 2 ^ 64) (h : gtF (ab x) (ab y) = true) : key y < key x := by
  refine key_of_lt hy hx ?_
  cases ex : isN x
  · cases ey : isN y
    · unfold gtF at h
      unfold ltF
      have e1 : double.order x y = ord (ab x) (ab y) := order_ab x y
      have e2 : double.order y x = ord (ab y) (ab x) := order_ab y x
      rw [← e1, order_lin ex ey] at h
      rw [← e2, order_lin ey ex]
      have h' : compare (lin x) (lin y) = .gt := by simpa using h
      have : lin y < lin x := by
        rw [Int.compare_eq_ite_lt] at h'
        split at h'
        · cases h'
        · split at h'
          · assumption
          · cases h'
      rw [Int.compare_eq_ite_lt, if_pos this]
      rfl
    · rw [ab_none ey, ab_some ex] at h; cases h
  · rw [ab_none ex] at h
    cases ey : isN y
    · rw [ab_some ey] at h; cases h
    · rw [ab_none ey] at h; cases h
/-- What is behind is not stronger; NaN is last. -/
theorem fall_le {x y : Nat} (hx : x < 2 ^ 64) (hy : y < 2 ^ 64) (h : fall x ≤ fall y) : gtF (ab y) (ab x) = false ∧ (isN x = true → isN y = true) := by
  unfold fall at h
  constructor
  · cases hg : gtF (ab y) (ab x)
    · rfl
    · exfalso
      have hk := gt_key hy hx hg
      cases ex : isN x
      · cases ey : isN y
        · rw [ex, ey] at h
          have := key_num ey hy
          simp at h
          omega
        · rw [ab_none ey, ab_some ex] at hg; cases hg
      · rw [ab_none ex] at hg
        cases ey : isN y
        · rw [ab_some ey] at hg; cases hg
        · rw [ab_none ey] at hg; cases hg
  · intro ex
    cases ey : isN y
    · exfalso
      rw [ex, ey] at h
      have h1 := key_pos ey hy
      have h2 := key_num ey hy
      simp at h
      omega
    · rfl
theorem fall_inj {x y : Nat} (hx : x < 2 ^ 64) (hy : y < 2 ^ 64) (h : fall x = fall y) : key x = key y := by
  unfold fall at h
  cases ex : isN x <;> cases ey : isN y <;> rw [ex, ey] at h
  · have h1 := key_num ex hx
    have h2 := key_num ey hy
    simp at h
    omega
  · have h1 := key_pos ex hx
    have h2 := key_num ex hx
    simp at h
    omega
  · have h1 := key_pos ey hy
    have h2 := key_num ey hy
    simp at h
    omega
  · rw [key_nan ex, key_nan ey]
theorem rk_parts {p q : Plt} (hp : p.Fit) (hq : q.Fit) (h : rk p = rk q) : key p.r = key q.r ∧ key p.s = key q.s ∧ key p.p = key q.p ∧ key p.b = key q.b ∧ key p.t = key q.t := by
  unfold rk at h
  have r1 := key_lt hp.r
  have r2 := key_lt hq.r
  have s1 := key_lt hp.s
  have s2 := key_lt hq.s
  have b1 := key_lt hp.b
  have b2 := key_lt hq.b
  have t1 := key_lt hp.t
  have t2 := key_lt hq.t
  have f := fall_inj hp.p hq.p
  generalize key p.r = pr at *
  generalize key q.r = qr at *
  generalize key p.s = ps at *
  generalize key q.s = qs at *
  generalize key p.b = pb at *
  generalize key q.b = qb at *
  generalize key p.t = pt at *
  generalize key q.t = qt at *
  generalize fall p.p = fp at *
  generalize fall q.p = fq at *
  refine ⟨by omega, by omega, f (by omega), by omega, by omega⟩
theorem rk_fall {p q : Plt} (hp : p.Fit) (hq : q.Fit) (h : rk p ≤ rk q) : fall p.p ≤ fall q.p := by
  unfold rk at h
  have r1 := key_lt hp.r
  have r2 := key_lt hq.r
  have s1 := key_lt hp.s
  have s2 := key_lt hq.s
  have b1 := key_lt hp.b
  have b2 := key_lt hq.b
  have t1 := key_lt hp.t
  have t2 := key_lt hq.t
  omega
theorem InOrd.le {P : Nat → Plt} {n : Nat} {o : List Nat} (h : InOrd P n o) (hn : n < 2 ^ 64) {i j : Nat} (hij : i < j) (hj : j < n) : rk (P o[i]!) ≤ rk (P o[j]!) := by
  have hl := h.length
  have hs := List.pairwise_iff_getElem.1 h.sorted i j (by omega) (by omega) hij
  have a := h.at (show i < n by omega)
  have b := h.at hj
  rw [getElem!_pos o i (by omega)] at *
  rw [getElem!_pos o j (by omega)] at *
  unfold kAt at hs
  omega
theorem InOrd.ne {P : Nat → Plt} {n : Nat} {o : List Nat} (h : InOrd P n o) {i j : Nat} (hij : i < j) (hj : j < n) : o[i]! ≠ o[j]! := by
  have hl := h.length
  have hs := List.pairwise_iff_getElem.1 h.sorted i j (by omega) (by omega) hij
  rw [getElem!_pos o i (by omega), getElem!_pos o j (by omega)]
  intro e
  rw [e] at hs
  omega
/-- In order once, in order again. -/
theorem InOrd.again {P : Nat → Plt} {n : Nat} {o : List Nat} (h : InOrd P n o) (hn : n < 2 ^ 64) : InOrd (fun i => P o[i]!) n (List.range n) := by
  refine ⟨List.Perm.refl _, ?_⟩
  rw [List.pairwise_iff_getElem]
  intro i j hi hj hij
  simp only [List.length_range] at hi hj
  simp only [List.getElem_range]
  have := h.le hn hij hj
  show rk (P o[i]!) * 2 ^ 64 + i < rk (P o[j]!) * 2 ^ 64 + j
  omega
theorem le_eq : ∀ {a b : List Nat}, a.Perm b → a.Pairwise (· ≤ ·) → b.Pairwise (· ≤ ·) → a = b
  | [], b, h, _, _ => by rw [List.nil_perm.1 h]
  | x :: a, [], h, _, _ => by have := h.length_eq; simp at this
  | x :: a, y :: b, h, h1, h2 => by
    rw [List.pairwise_cons] at h1 h2
    have hxy : x = y := by
      have hx : x ∈ y :: b := h.mem_iff.1 (by simp)
      have hy : y ∈ x :: a := h.mem_iff.2 (by simp)
      simp at hx hy
      rcases hx with e | hx
      · exact e
      · rcases hy with e | hy
        · exact e.symm
        · have := h1.1 y hy
          have := h2.1 x hx
          omega
    subst hxy
    rw [le_eq (List.Perm.cons_inv h) h1.2 h2.2]
/-- Turned about. -/
theorem turn_perm {n c : Nat} (hc : c ≤ n) : ((List.range n).map fun i => (i + c) % n).Perm (List.range n) := by
  have e : ((List.range n).map fun i => (i + c) % n) = List.range' c (n - c) ++ List.range c := by
    apply List.ext_getElem
    · simp; omega
    · intro i h1 h2
      simp only [List.length_map, List.length_range] at h1
      simp only [List.getElem_map, List.getElem_range]
      rcases Nat.lt_or_ge i (n - c) with h | h
      · rw [List.getElem_append_left (by simpa using h), List.getElem_range', Nat.mod_eq_of_lt (by omega)]
        omega
      · rw [List.getElem_append_right (by simpa using h), List.getElem_range]
        rw [Nat.mod_eq_sub_mod (by omega), Nat.mod_eq_of_lt (by omega)]
        simp
        omega
  rw [e]
  refine List.perm_append_comm.trans ?_
  rw [List.range_eq_range', List.range_eq_range', show n = c + (n - c) by omega, ← List.range'_append]
  simp
theorem InOrd.ranks {P : Nat → Plt} {n : Nat} {o : List Nat} (h : InOrd P n o) (hn : n < 2 ^ 64) : (o.map fun k => rk (P k)).Pairwise (· ≤ ·) := by
  rw [List.pairwise_iff_getElem]
  intro i j hi hj hij
  simp only [List.length_map] at hi hj
  have hl := h.length
  have := h.le hn hij (by omega)
  rw [getElem!_pos o i (by omega), getElem!_pos o j (by omega)] at this
  simpa using this
theorem turned_same {P : Nat → Plt} {n c : Nat} (hc : c ≤ n) {o t : List Nat} (h : InOrd P n o) (k : InOrd (fun i => P ((i + c) % n)) n t) (hn : n < 2 ^ 64) {i : Nat} (hi : i < n) : rk (P ((t[i]! + c) % n)) = rk (P o[i]!) := by
  have e : (t.map fun k => rk (P ((k + c) % n))) = o.map fun k => rk (P k) := by
    refine le_eq ?_ (k.ranks hn) (h.ranks hn)
    have p1 := k.perm.map fun k => rk (P ((k + c) % n))
    have p2 := (turn_perm hc).map fun k => rk (P k)
    have p3 := h.perm.map fun k => rk (P k)
    rw [List.map_map] at p2
    exact p1.trans (p2.trans p3.symm)
  have hl := h.length
  have hk := k.length
  have := congrArg (fun l => l[i]?) e
  simp only [List.getElem?_map] at this
  rw [List.getElem?_eq_getElem (by omega), List.getElem?_eq_getElem (by omega)] at this
  rw [getElem!_pos t i (by omega), getElem!_pos o i (by omega)]
  simpa using this
end Go.Proofs.Ytijfmaepoamkgaa

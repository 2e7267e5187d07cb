/- Corners: where they begin, which way round they go, cut at a diagonal. -/
import Derived.Test.YtlgejebgkkmacaaPp
import Derived.Test.YtlgejebgkkmacaaSa
namespace Go.Proofs.Ytlgejebgkkmacaa
open Go.Fl Go.RowKit

theorem ab_or (x : Nat) : ab x = none ∨ (isN x = false ∧ ab x = some x) := by
  cases h : isN x
  · exact Or.inr ⟨rfl, ab_some h⟩
  · left; unfold ab; rw [if_pos h]
theorem lt_asym {x y : Nat} (h : ltF (ab x) (ab y) = true) : ltF (ab y) (ab x) = false := by
  rcases ab_or x with e | ⟨hx, ex⟩
  · rw [e] at h; cases h
  rcases ab_or y with e | ⟨hy, ey⟩
  · rw [e] at h; rw [ex] at h; cases h
  rw [ex, ey] at h ⊢
  rw [ltF_lin hx hy] at h
  rw [ltF_lin hy hx]
  simp at h ⊢
  omega
theorem lt_between {a y c : Nat} (h1 : (ltF (ab a) (ab y) || eqF (ab a) (ab y)) = true) (h2 : ltF (ab y) (ab c) = true) : ltF (ab a) (ab c) = true := by
  rcases ab_or a with e | ⟨ha, ea⟩
  · rw [e] at h1; cases h1
  rcases ab_or y with e | ⟨hy, ey⟩
  · rw [e] at h2; cases h2
  rcases ab_or c with e | ⟨hc, ec⟩
  · rw [e, ey] at h2; cases h2
  rw [ea, ey] at h1
  rw [ey, ec] at h2
  rw [ea, ec]
  rw [ltF_lin ha hy, eqF_lin ha hy] at h1
  rw [ltF_lin hy hc] at h2
  rw [ltF_lin ha hc]
  simp at h1 h2 ⊢
  omega
theorem east_no {a b p : Nat × Nat} (h : ltF (ab a.2) (ab b.2) = false) : eastF (ab a.1) (ab a.2) (ab b.1) (ab b.2) (ab p.1) (ab p.2) = false := by
  unfold eastF
  cases h1 : (ltF (ab a.2) (ab p.2) || eqF (ab a.2) (ab p.2))
  · rfl
  · cases h2 : ltF (ab p.2) (ab b.2)
    · rfl
    · rw [lt_between h1 h2] at h; cases h
/-- Which way round an edge goes makes no difference. -/
theorem cnt_turn (a b p : Nat × Nat) : cntF a b p = cntF b a p := by
  unfold cntF
  cases h1 : ltF (ab b.2) (ab a.2)
  · cases h2 : ltF (ab a.2) (ab b.2)
    · rw [if_neg (by decide), if_neg (by decide), east_no h2, east_no h1]
    · rfl
  · rw [lt_asym h1]; rfl
theorem odd_succ (g : Nat → Bool) (n : Nat) : oddN g (n + 1) = (g n ^^ oddN g n) := by
  rw [oddN]; cases g n <;> cases oddN g n <;> rfl
theorem odd_add (g : Nat → Bool) (a b : Nat) : oddN g (a + b) = (oddN g a ^^ oddN (fun k => g (a + k)) b) := by
  induction b with
  | zero => simp [oddN]
  | succ b ih => rw [← Nat.add_assoc, odd_succ, odd_succ, ih]; cases g (a + b) <;> simp
theorem odd_head (g : Nat → Bool) (n : Nat) : oddN g (n + 1) = (g 0 ^^ oddN (fun k => g (k + 1)) n) := by
  rw [Nat.add_comm, odd_add]
  simp only [Nat.add_comm 1]
  congr 1
  rw [odd_succ]; simp [oddN]
theorem odd_rev (g : Nat → Bool) (m : Nat) : oddN (fun k => g (m - 1 - k)) m = oddN g m := by
  induction m generalizing g with
  | zero => rfl
  | succ m ih =>
    rw [odd_succ, odd_head g m, ← ih (fun k => g (k + 1))]
    have e1 : m + 1 - 1 - m = 0 := by omega
    rw [e1]
    congr 1
    refine odd_congr fun j hj => ?_
    show g _ = g _
    congr 1
    omega
/-- Going round from another place. -/
theorem odd_round (g : Nat → Bool) (n s : Nat) (hn : 0 < n) : oddN (fun k => g ((k + s) % n)) n = oddN g n := by
  induction s with
  | zero => exact odd_congr fun j hj => by rw [Nat.add_zero, Nat.mod_eq_of_lt hj]
  | succ s ih =>
    rw [← ih, ← odd_shift (fun k => g ((k + (s + 1)) % n)) n]
    refine odd_congr fun j hj => ?_
    by_cases h : j = 0
    · subst h
      rw [if_pos rfl, show n - 1 + (s + 1) = 0 + s + n by omega, Nat.add_mod_right]
    · rw [if_neg h, show j - 1 + (s + 1) = j + s by omega]
theorem win_in {f : Nat → Nat × Nat} {n : Nat} {p : Nat × Nat} (h1 : 3 ≤ n) (h2 : n ≤ 64) : winF f n p = oddN (nxF f n p) n := by
  unfold winF
  rw [if_neg (by omega), win_next f n p h1]
theorem win_out {f g : Nat → Nat × Nat} {n : Nat} {p : Nat × Nat} (h : n < 3 ∨ 64 < n) : winF f n p = winF g n p := by
  unfold winF
  rw [if_pos h, if_pos h]
theorem win_congr {f g : Nat → Nat × Nat} {n : Nat} {p : Nat × Nat} (h : ∀ j, j < n → f j = g j) : winF f n p = winF g n p := by
  unfold winF
  split
  · rfl
  · refine odd_congr fun j hj => ?_
    unfold prv
    rw [h j hj]
    split
    · rw [h (n - 1) (by omega)]
    · rw [h (j - 1) (by omega)]
theorem win_round (f : Nat → Nat × Nat) (n s : Nat) (p : Nat × Nat) : winF (fun k => f ((k + s) % n)) n p = winF f n p := by
  by_cases h : n < 3 ∨ 64 < n
  · exact win_out h
  · rw [win_in (by omega) (by omega), win_in (by omega) (by omega), ← odd_round (nxF f n p) n s (by omega)]
    refine odd_congr fun j hj => ?_
    unfold nxF
    simp only
    congr 2
    rw [Nat.mod_add_mod, Nat.mod_add_mod]
    congr 1
    omega
theorem win_back (f : Nat → Nat × Nat) (n : Nat) (p : Nat × Nat) : winF (fun k => f (n - 1 - k)) n p = winF f n p := by
  by_cases h : n < 3 ∨ 64 < n
  · exact win_out h
  · rw [win_in (by omega) (by omega), win_in (by omega) (by omega)]
    obtain ⟨m, rfl⟩ : ∃ m, n = m + 1 := ⟨n - 1, by omega⟩
    rw [odd_succ, odd_succ]
    have e1 : nxF (fun k => f (m + 1 - 1 - k)) (m + 1) p m = nxF f (m + 1) p m := by
      unfold nxF
      rw [Nat.mod_self, cnt_turn]
      simp
    rw [e1]
    congr 1
    rw [← odd_rev (nxF f (m + 1) p) m]
    refine odd_congr fun j hj => ?_
    unfold nxF
    rw [cnt_turn]
    have a1 : (j + 1) % (m + 1) = j + 1 := Nat.mod_eq_of_lt (by omega)
    have a2 : (m - 1 - j + 1) % (m + 1) = m - 1 - j + 1 := Nat.mod_eq_of_lt (by omega)
    rw [a1, a2]
    have b1 : m + 1 - 1 - (j + 1) = m - 1 - j := by omega
    have b2 : m + 1 - 1 - j = m - 1 - j + 1 := by omega
    show cntF (f (m + 1 - 1 - (j + 1))) (f (m + 1 - 1 - j)) p = _
    rw [b1, b2]
/-- Points in a row, closed at the end. -/
theorem win_path {h : Nat → Nat × Nat} {m : Nat} {p : Nat × Nat} (h1 : 3 ≤ m + 1) (h2 : m + 1 ≤ 64) : winF h (m + 1) p = (cntF (h m) (h 0) p ^^ oddN (fun k => cntF (h k) (h (k + 1)) p) m) := by
  rw [win_in h1 h2, odd_succ]
  congr 1
  · unfold nxF; rw [Nat.mod_self]
  · refine odd_congr fun j hj => ?_
    unfold nxF
    rw [Nat.mod_eq_of_lt (show j + 1 < m + 1 by omega)]
/-- Cut at a diagonal. -/
theorem win_cut (f : Nat → Nat × Nat) (n i j : Nat) (p : Nat × Nat) (h4 : 4 ≤ n) (h64 : n ≤ 64) (hij : i + 2 ≤ j) (hj : j < n) (hne : ¬(i = 0 ∧ j = n - 1)) :
    winF f n p = (winF (fun k => f (i + k)) (j - i + 1) p ^^ winF (fun k => f ((j + k) % n)) (n - (j - i) + 1) p) := by
  rw [win_in (by omega) h64, win_path (by omega) (by omega), win_path (by omega) (by omega), ← odd_round (nxF f n p) n i (by omega)]
  have e : n = (j - i) + (n - (j - i)) := by omega
  have hs : oddN (fun k => nxF f n p ((k + i) % n)) n = (oddN (fun k => cntF (f (i + k)) (f (i + (k + 1))) p) (j - i) ^^ oddN (fun k => cntF (f ((j + k) % n)) (f ((j + (k + 1)) % n)) p) (n - (j - i))) := by
    rw [show oddN (fun k => nxF f n p ((k + i) % n)) n = oddN (fun k => nxF f n p ((k + i) % n)) ((j - i) + (n - (j - i))) by rw [← e], odd_add]
    congr 1
    · refine odd_congr fun k hk => ?_
      unfold nxF
      rw [Nat.mod_eq_of_lt (show k + i < n by omega), Nat.mod_eq_of_lt (show k + i + 1 < n by omega), Nat.add_comm k i, Nat.add_assoc]
    · refine odd_congr fun k hk => ?_
      unfold nxF
      rw [Nat.mod_add_mod, show j - i + k + i = j + k by omega, show j + k + 1 = j + (k + 1) by omega]
  rw [hs]
  have c1 : cntF (f (i + (j - i))) (f (i + 0)) p = cntF (f j) (f i) p := by rw [show i + (j - i) = j by omega, Nat.add_zero]
  have c2 : cntF (f ((j + (n - (j - i))) % n)) (f ((j + 0) % n)) p = cntF (f i) (f j) p := by
    rw [show j + (n - (j - i)) = i + n by omega, Nat.add_mod_right, Nat.mod_eq_of_lt (show i < n by omega), Nat.add_zero, Nat.mod_eq_of_lt hj]
  rw [c1, c2, cnt_turn (f i) (f j) p]
  cases cntF (f j) (f i) p <;> cases oddN (fun k => cntF (f (i + k)) (f (i + (k + 1))) p) (j - i) <;> cases oddN (fun k => cntF (f ((j + k) % n)) (f ((j + (k + 1)) % n)) p) (n - (j - i)) <;> rfl
end Go.Proofs.Ytlgejebgkkmacaa

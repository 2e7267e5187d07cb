/- What is known of plans that run a long way: no program. -/
import Derived.Test.YtjklaemhfhakhaaMf
import Derived.Test.YtjklaemhfhakhaaMi
namespace Go.Proofs.Ytjklaemhfhakhaa

/-- A row of n stretches, told by their number. -/
def slN (F : Nat → Sl) : Nat → List Sl
  | 0 => []
  | n + 1 => F 0 :: slN (fun i => F (i + 1)) n
theorem slN_len : ∀ (n : Nat) (F : Nat → Sl), (slN F n).length = n
  | 0, _ => rfl
  | n + 1, F => by show (slN _ n).length + 1 = n + 1; rw [slN_len n]
theorem slN_at : ∀ (n : Nat) (F : Nat → Sl) (i : Nat), i < n → (slN F n)[i]? = some (F i)
  | 0, _, i, h => by omega
  | n + 1, F, 0, _ => rfl
  | n + 1, F, i + 1, h => by
    show (slN (fun i => F (i + 1)) n)[i]? = _
    rw [slN_at n _ i (by omega)]
/-- Where each stretch leads from one state of a row of states to the next one, Until tells just these. -/
theorem until_row {n : Nat} {tick : Int} {P : Nat → Pl} {F : Nat → Sl} : ∀ (k : Nat) (j : Nat),
    (∀ i, j ≤ i → i < j + k → (P i).now < tick ∧ ∃ m f c, runN (P i).J (P i).now n = ((P i).J m, f) ∧ f < tick ∧ min (endN (P i).J ((P i).J m) (f + ((P i).J m).left) n) tick = c ∧ F i = ⟨m, f, c, decide (((P i).J m).due < c)⟩ ∧ (P i).go m (c - f) c = P (i + 1)) →
    untilN n tick k (P j) = (slN (fun i => F (j + i)) k, P (j + k))
  | 0, j, _ => rfl
  | k + 1, j, h => by
    obtain ⟨h1, m, f, c, h2, h3, h4, h5, h6⟩ := h j (Nat.le_refl _) (by omega)
    rw [until_step h1 h2 h3, h4, h6, until_row k (j + 1) (fun i a b => h i (by omega) (by omega)), ← h5]
    have e1 : j + 1 + k = j + (k + 1) := by omega
    have e2 : (fun i => F (j + 1 + i)) = (fun i => F (j + (i + 1))) := by funext i; rw [show j + 1 + i = j + (i + 1) by omega]
    rw [e1, e2]
    rfl
/-- One task alone runs from its release, or Now, on. -/
theorem one_runs {p : Pl} (h : max (p.J 0).frm p.now < farT) : runN p.J p.now 1 = (p.J 0, max (p.J 0).frm p.now) := by
  have h1 : max (p.J 0).frm p.now < (runN p.J p.now 0).2 := h
  rw [runN, if_pos (Or.inl h1)]
theorem one_ends {J : Nat → Jb} {z : Int} : endN J (J 0) z 1 = z := by
  show (if ahB (J 0) (J 0) = true then _ else z) = z
  rw [ah_irrefl]
  rfl
/-- A task that has all its time: its j-th state. -/
def fullP (E : Int) (j : Nat) : Pl := ⟨j * E, fun i => if i = 0 then ⟨⟨j * E, E, E, 0⟩, [], 0⟩ else (newP (fun _ => ⟨E, E, 0⟩)).c i⟩
theorem full_go {E : Int} (j : Nat) : (fullP E j).go 0 ((j + 1 : Nat) * E - j * E) ((j + 1 : Nat) * E) = fullP E (j + 1) := by
  have e1 : ((j + 1 : Nat) : Int) * E - j * E = E := by
    have : ((j + 1 : Nat) : Int) * E = j * E + E := by rw [Int.natCast_add]; grind
    omega
  rw [e1]
  have e2 : ((j + 1 : Nat) : Int) * E = j * E + E := by rw [Int.natCast_add]; grind
  have e3 : ((fullP E j).c 0).work E = ⟨⟨(j + 1 : Nat) * E, E, E, 0⟩, [], 0⟩ := by
    show (if (0 : Int) + E < E then _ else (⟨⟨j * E + E, E, E, 0⟩, [], 0⟩ : Crs)) = _
    rw [if_neg (by omega), e2]
  show (⟨_, upd (fullP E j).c 0 (((fullP E j).c 0).work E)⟩ : Pl) = _
  rw [e3]
  unfold fullP upd
  congr 1
  funext i
  by_cases q : i = 0
  · rw [if_pos q, if_pos q]
  · rw [if_neg q, if_neg q]
    show (if i = 0 then _ else _) = _
    rw [if_neg q]
/-- Many periods of it, one behind the other. -/
theorem full_until {E tick : Int} (h0 : 0 < E) (k j : Nat) (ht : ((j + k : Nat) : Int) * E ≤ tick) (hT : tick ≤ 1152921504606846976) : untilN 1 tick k (fullP E j) = (slN (fun i => ⟨0, (j + i : Nat) * E, (j + i + 1 : Nat) * E, false⟩) k, fullP E (j + k)) := by
  refine until_row (P := fullP E) (F := fun i => ⟨0, (i : Nat) * E, (i + 1 : Nat) * E, false⟩) k j fun i h1 h2 => ?_
  have e2 : ((i + 1 : Nat) : Int) * E = i * E + E := by rw [Int.natCast_add]; grind
  have hle : ((i + 1 : Nat) : Int) * E ≤ ((j + k : Nat) : Int) * E := Int.mul_le_mul_of_nonneg_right (by omega) (by omega)
  have hn : (fullP E i).now = i * E := rfl
  have hJ : (fullP E i).J 0 = ⟨0, i * E, i * E + E, E - 0, 0⟩ := rfl
  refine ⟨by rw [hn]; omega, 0, i * E, (i + 1 : Nat) * E, ?_, by omega, ?_, ?_, full_go i⟩
  · rw [one_runs (by rw [hn, hJ]; show max ((i : Int) * E) (i * E) < farT; unfold farT; omega), hn, hJ]
    show (_, max ((i : Int) * E) (i * E)) = _
    rw [show max ((i : Int) * E) (i * E) = i * E by omega]
  · rw [one_ends, hJ]
    show min ((i : Int) * E + (E - 0)) tick = _
    omega
  · rw [hJ]
    show (⟨0, _, _, false⟩ : Sl) = ⟨_, _, _, decide ((i : Int) * E + E < _)⟩
    rw [e2]
    simp
end Go.Proofs.Ytjklaemhfhakhaa

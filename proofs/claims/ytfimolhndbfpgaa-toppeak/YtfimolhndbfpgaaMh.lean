/- A pulse of signs that stands somewhere: rows, and what Match tells of them. -/
import Derived.Test.YtfimolhndbfpgaaMf
import Derived.Test.YtfimolhndbfpgaaWi
namespace Go.Proofs.Ytfimolhndbfpgaa
open Go.ChangeShapes Go.WideShapes Go.ChangeAt Go.RowKit Go.Fl Ieee
attribute [local go_sem] run_store_float run_store_c isSome_set call29 call28 run_neg fold_eq fold_ne fold_lt fold_gt abs_eq

/-- A sign's sample. -/
def sgnP (s : Bool) : Nat × Nat := if s then (4607182418800017408, 0) else (13830554455654793216, 0)
def sg (s : Bool) : Int := if s then 1 else -1
theorem sgn_w2 (s : Bool) : W2 (ab2 (sgnP s)) (sg s) := by
  cases s
  · exact ⟨WH.mone, WH.zero⟩
  · exact ⟨WH.one, WH.zero⟩
/-- The row so far. -/
structure SgnRow (w0 w : World) (v : Value) (S : Nat → Bool) (k : Nat) : Prop where
  row : w.ownsRow w0.heap.size 28 1 v k ((List.range k).map fun i => ce (sgnP (S i)))
  up : Up w0 w
theorem SgnRow.push {w0 w wa w1 : World} {v v' : Value} {S : Nat → Bool} {k x : Nat} (h : SgnRow w0 w v S k) (hu : Up w wa) (hx : sgnP (S k) = (x, 0)) (hown : w1.ownsRow w0.heap.size 28 1 v' (k + 1) (((List.range k).map fun i => ce (sgnP (S i))) ++ [.complex .f64 x 0])) (hg : wa.grownBy w1 v.ownBlock) : SgnRow w0 w1 v' S (k + 1) := by
  refine ⟨?_, Below.grown (h.up.trans hu) hg (Nat.le_trans h.up.size hu.size) (fun j hj => (h.row.lt j hj).1)⟩
  rw [List.range_succ, List.map_append]
  simp only [List.map_cons, List.map_nil, hx, ce]
  exact hown
theorem SgnRow.rd {w0 w : World} {v : Value} {S : Nat → Bool} {n : Nat} (h : SgnRow w0 w v S n) (h0 : 0 < n) : ∃ g cap, v = .slice (some ⟨g, 0, none⟩) n cap ∧ n ≤ cap ∧ RD w g 0 n (fun i => sgnP (S i)) := by
  rcases h.row.2 with ⟨_, h2⟩ | ⟨g, cap, cur, rfl, _, _, hc, _⟩
  · omega
  · refine ⟨g, cap, rfl, hc, fun j hj => ?_⟩
    rw [Nat.zero_add, World.ownsRow.cellAt h.row j (by omega)]
    simp [List.getElem?_map, List.getElem?_range hj]
/-- Noughts, but for the pulse, z times, from the place D on (so far: its first n). -/
def peakF (S : Nat → Bool) (z : Int) (D n j : Nat) : Int := if D ≤ j ∧ j < D + n then z * sg (S (j - D)) else 0
def peakC (S : Nat → Bool) (z : Int) (D n p : Nat) : Int := dotZ (fun i => peakF S z D n (i + p)) (fun i => sg (S i)) n
theorem peak_next {S : Nat → Bool} {z : Int} {D n j : Nat} : peakF S z D (n + 1) j = if j = D + n then z * sg (S n) else peakF S z D n j := by
  unfold peakF
  by_cases h : j = D + n
  · subst h
    rw [if_pos (by omega), if_pos rfl, Nat.add_sub_cancel_left]
  · rw [if_neg h]
    by_cases h2 : D ≤ j ∧ j < D + n
    · rw [if_pos h2, if_pos (by omega)]
    · rw [if_neg h2, if_neg (by omega)]
theorem sg_sq (s : Bool) : sg s * sg s = 1 := by cases s <;> rfl
theorem peak_bd {S : Nat → Bool} {z : Int} {D n p Z : Nat} (hz : z.natAbs ≤ Z) : Bd (fun i => peakF S z D n (i + p)) (fun i => sg (S i)) n Z := by
  intro i hi
  show -(Z : Int) ≤ peakF S z D n (i + p) * sg (S i) ∧ peakF S z D n (i + p) * sg (S i) ≤ Z
  unfold peakF
  split
  · cases S (i + p - D) <;> cases S i <;> simp [sg] <;> omega
  · simp
theorem peak_at (S : Nat → Bool) (z : Int) (D n : Nat) : peakC S z D n D = n * z := by
  have h : ∀ m, m ≤ n → dotZ (fun i => peakF S z D n (i + D)) (fun i => sg (S i)) m = m * z := by
    intro m
    induction m with
    | zero => intro _; simp [dotZ]
    | succ m ih =>
      intro hm
      rw [dotZ, ih (by omega)]
      have : peakF S z D n (m + D) = z * sg (S m) := by
        unfold peakF
        rw [if_pos (by omega), Nat.add_sub_cancel]
      rw [this, Int.mul_assoc, sg_sq, Int.mul_one, Int.natCast_add, Int.add_mul]
      simp
  exact h n (Nat.le_refl _)
theorem peak_off (S : Nat → Bool) (z : Int) {D n p : Nat} (h1 : 1 ≤ n) (hp : p ≠ D) : -(((n - 1) * z.natAbs : Nat) : Int) ≤ peakC S z D n p ∧ peakC S z D n p ≤ (((n - 1) * z.natAbs : Nat) : Int) := by
  rcases Nat.lt_or_ge p D with h | h
  · exact dotZ_less (i0 := 0) (peak_bd (Nat.le_refl _)) (by omega) (by show peakF _ _ _ _ _ = 0; unfold peakF; rw [if_neg (by omega)])
  · exact dotZ_less (i0 := n - 1) (peak_bd (Nat.le_refl _)) (by omega) (by show peakF _ _ _ _ _ = 0; unfold peakF; rw [if_neg (by omega)])
theorem peak_move (S : Nat → Bool) (z : Int) (D M n p : Nat) : peakC S z (D + M) n (p + M) = peakC S z D n p := by
  refine dotZ_congr fun i hi => ?_
  show peakF S z (D + M) n (i + (p + M)) * _ = peakF S z D n (i + p) * _
  congr 1
  unfold peakF
  by_cases h : D ≤ i + p ∧ i + p < D + n
  · rw [if_pos h, if_pos (by omega), show i + (p + M) - (D + M) = i + p - D by omega]
  · rw [if_neg h, if_neg (by omega)]
theorem held_peak {da : List (Nat × Nat)} {S : Nat → Bool} {z : Int} {D n L p : Nat} (hz : z.natAbs ≤ 1048576) (hn : n ≤ 1000) (hL : D + n ≤ L) (hp : p < L) (h : ∀ j, j < L → W2 (ab2 da[j]!) (peakF S z D n j)) : W2 (heldF (fun i => da[i]!) L (fun i => sgnP (S i)) n p) (peakC S z D n p) :=
  held_whole (K := 1048576) hp h (fun i _ => sgn_w2 (S i)) (fun i hi => by unfold peakF; rw [if_neg (by omega)]) (peak_bd hz) (by unfold P53; omega)
end Go.Proofs.Ytfimolhndbfpgaa

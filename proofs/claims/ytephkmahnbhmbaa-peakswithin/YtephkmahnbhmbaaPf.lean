/- Spots, rows of them; how many gates a map has. -/
import Derived.Test.YtephkmahnbhmbaaPe
import Derived.Test.YtephkmahnbhmbaaHh
namespace Go.Proofs.Ytephkmahnbhmbaa
open Go.ChangeShapes Go.WideShapes Go.ChangeAt Go.RowKit Go.Fl Go.Sort
attribute [local go_sem] run_store_float call52 run_neg fold_eq fold_ne fold_lt fold_gt abs_eq eqg57

/-- A spot: its bin, its gate, its power. -/
abbrev Spt := Int × Int × Nat
def spC (s : Spt) : List Value := [.int .i64 s.1, .int .i64 s.2.1, .float .f64 s.2.2]
theorem spC_len (L : List Spt) : (L.flatMap spC).length = L.length * 3 := by
  induction L with
  | nil => rfl
  | cons a l ih => rw [List.flatMap_cons, List.length_append, ih]; simp [spC]; omega
/-- A row of spots of one's own. -/
def SO (b : Nat) (w : World) (v : Value) (L : List Spt) : Prop := w.ownsRow b 29 3 v L.length (L.flatMap spC)
theorem SO.up {b : Nat} {w w' : World} {v : Value} {L : List Spt} (h : SO b w v L) (hu : Up w w') : SO b w' v L := owns_up h hu
theorem SO.base {b b' : Nat} {w : World} {v : Value} {L : List Spt} (h : SO b w v L) (hb : b' ≤ b) : SO b' w v L := by
  obtain ⟨h1, h2⟩ := h
  refine ⟨h1, ?_⟩
  rcases h2 with h2 | ⟨g, cap, cur, rfl, k2, k3⟩
  · exact Or.inl h2
  · exact Or.inr ⟨g, cap, cur, rfl, Nat.le_trans hb k2, k3⟩
theorem SO.nil (b : Nat) (w : World) : SO b w (.slice none 0 0) [] := World.ownsRow_nil _ _ _ _
set_option maxRecDepth 20000 in
theorem info29 : (Try.prog.info? 29).map (fun i => (i.zero, i.size, i.bytes)) = some (some (.agg #[.int .i64 0, .int .i64 0, .float .f64 0]), 3, 24) := by kernel_rfl
/-- A row of spots gets one more. -/
theorem so_push {w wr w1 : World} {v v' : Value} {m b : Nat} {L : List Spt} {s : Spt} (hb : w.heap.size ≤ b) (hl : L.length = m) (hown : wr.ownsRow b 29 3 v m (L.flatMap spC)) (hbel : Up w wr) {c : Array Value} {t : TypeId}
    (hown' : w1.ownsRow b 29 3 v' (m + 1) (L.flatMap spC ++ [.int .i64 s.1, .int .i64 s.2.1, .float .f64 s.2.2])) (hg : (wr.alloc (.cells c t)).grownBy w1 v.ownBlock) :
    SO b w1 v' (L ++ [s]) ∧ Up w w1 := by
  refine ⟨?_, ?_⟩
  · show w1.ownsRow _ _ _ _ _ _
    rw [List.flatMap_append, List.length_append, hl]
    exact hown'
  · have hs : w.heap.size ≤ wr.heap.size := RowKit.Below.size hbel
    exact (RowKit.Below.alloc hbel hs _).grown hg (by simp; omega) (fun j hj => Nat.le_trans hb (hown.lt j hj).1)
theorem three_new (w : World) (a b c : Value) (t : TypeId) : ∀ (j : Nat) (u : Value), [a, b, c][j]? = some u → (w.alloc (.cells #[a, b, c] t)).cell? ((⟨w.heap.size, 0, none⟩ : Addr).add j) = some u := by
  intro j u hj
  have e : (⟨w.heap.size, 0, none⟩ : Addr).add j = ⟨w.heap.size, j, none⟩ := by
    unfold Addr.add
    split
    · rename_i h; rw [h]
    · simp
  rw [e, World.cell?_alloc_at _ _ _ _ rfl]
  simpa using hj
theorem three_one {a b c : Value} (ha : a.oneCell' = true) (hb : b.oneCell' = true) (hc : c.oneCell' = true) : ∀ u ∈ [a, b, c], u.oneCell' = true := by
  intro u hu
  simp at hu
  rcases hu with rfl | rfl | rfl
  · exact ha
  · exact hb
  · exact hc
/-- How many gates the first rows have. -/
def shN (D : Nat → Array Nat) : Nat → Nat
  | 0 => (D 0).size
  | k + 1 => min (shN D k) (D (k + 1)).size
def shortF (D : Nat → Array Nat) (n : Nat) : Nat := if n = 0 then 0 else shN D (n - 1)
theorem shN_le (D : Nat → Array Nat) {i k : Nat} (h : i ≤ k) : shN D k ≤ (D i).size := by
  induction k with
  | zero => obtain rfl : i = 0 := by omega
            exact Nat.le_refl _
  | succ k ih =>
    unfold shN
    rcases Nat.lt_or_ge i (k + 1) with q | q
    · have := ih (by omega); omega
    · obtain rfl : i = k + 1 := by omega
      omega
theorem short_le {D : Nat → Array Nat} {n i : Nat} (h : i < n) : shortF D n ≤ (D i).size := by
  unfold shortF
  rw [if_neg (by omega)]
  exact shN_le D (by omega)
set_option maxRecDepth 20000 in
theorem t28 {w : World} {p : Option Addr} {n cap : Nat} {D : Nat → Array Nat} (h : MV w p n cap D) : Calls Try.prog 28 #[.slice p n cap] w fun e w' => e = .returned (.int .i64 (shortF D n)) ∧ w' = w := by
  by_cases h0 : n = 0
  · subst h0
    go_enter Try.func28, Try.ntmps28
    go_wp2
    go_ret
    exact ⟨rfl, rfl⟩
  · have H : Hid (MV w p n cap D) := h
    obtain ⟨b, o, rfl, hr⟩ := h.rd (by omega)
    obtain ⟨q0, c0, k0, _⟩ := hr 0 (by omega)
    have hc := h.cap
    have hs0 := h.small 0 (by omega)
    have hf := h.few
    rw [Nat.add_zero] at k0
    have HR : Hid _ := hr
    obtain ⟨m, rfl⟩ : ∃ m, n = m + 1 := ⟨n - 1, by omega⟩
    have e1 : ((m + 1 : Nat) : Int) = (m : Int) + 1 := by omega
    obtain ⟨z0, hz0⟩ : ∃ z, (D 0).size = z := ⟨_, rfl⟩
    rw [hz0] at k0 hs0
    have HZ0 : Hid _ := hz0
    have b1 : ((m : Int) + 1 == 0) = false := by rw [beq_eq_false_iff_ne]; omega
    clear h hr h0 hz0
    by_cases hm0 : m = 0
    · subst hm0
      go_enter Try.func28, Try.ntmps28
      go_wp2
      all_goals
        go_loopw [3, 5, 16] (fun v3 _ vi wr => v3 = .int .i64 z0 ∧ vi = .int .i64 0 ∧ wr = w) (fun _ _ vi _ => 0)
        case atStart => exact ⟨rfl, rfl, rfl⟩
        case round =>
          obtain ⟨rfl, rfl, hw⟩ := hrel
          subst hw
          go_wp2
          go_ret
          exact ⟨by unfold shortF; rw [if_neg (by omega)]; show _ = Ending.returned (.int .i64 (shN D 0)); unfold shN; rw [HZ0.out]; rfl, rfl⟩
    · have hcc : ¬ cap = 1 := by omega
      have hcc2 : ¬ cap ≤ 1 := by omega
      clear hm0
      go_enter Try.func28, Try.ntmps28
      go_wp2
      go_loopw [3, 5, 16] (fun v3 _ vi wr => ∃ i g : Nat, i ≤ m ∧ vi = .int .i64 i ∧ v3 = .int .i64 g ∧ Hid (g = shN D i) ∧ wr = w) (fun _ _ vi _ => m - (intOf vi).toNat)
      case atStart => exact ⟨0, z0, by omega, rfl, rfl, HZ0.out.symm, rfl⟩
      case round =>
        obtain ⟨i, g, hi, rfl, rfl, HG, hw⟩ := hrel
        subst hw
        by_cases hlt : i < m
        · obtain ⟨qi, ci, ki, _⟩ := HR.out (i + 1) (by omega)
          have ki2 := (show o + 1 + i = o + (i + 1) by omega) ▸ ki
          obtain ⟨z, hz⟩ : ∃ z, (D (i + 1)).size = z := ⟨_, rfl⟩
          rw [hz] at ki2
          have HZ : Hid _ := hz
          have y1 : (i : Int) < (m : Int) := by omega
          clear ki hz
          obtain ⟨g', hg'⟩ : ∃ g', min g z = g' := ⟨_, rfl⟩
          have HG' : Hid (min g z = g') := hg'
          have e3 : (if (z : Int) < (g : Int) then (z : Int) else (g : Int)) = (g' : Int) := by split <;> omega
          clear hg'
          go_wp2
          all_goals go_roundw
          case rel => exact ⟨i + 1, g', by omega, by go_num, by go_num, by show _ = _; rw [shN, ← HG.out, HZ.out, HG'.out], by first | trivial | rfl⟩
          case measure => simp [intOf]; omega
        · obtain rfl : i = m := by omega
          go_wp2
          go_ret
          exact ⟨by unfold shortF; rw [if_neg (by omega)]; show _ = Ending.returned (.int .i64 (shN D i)); rw [← HG.out]; rfl, rfl⟩
end Go.Proofs.Ytephkmahnbhmbaa

/- The reference's Row. -/
import Derived.Test.YtcocliilapeelaaT
namespace Go.Proofs.Ytcocliilapeelaa
open Go.ChangeShapes Go.WideShapes Go.ChangeAt Go.RowKit Go.Fl Ieee
attribute [local go_sem] run_store_float run_store_complex call38 call37 run_neg fold_eq fold_ne fold_lt fold_gt abs_eq

/-- A row of structs that grows by a source. -/
structure RG (w W : World) (b : Nat) (s : Int) (x k k' : Nat) (v : Value) (O : List (Nat × Nat)) : Prop where
  len : O.length = k
  own : W.ownsRow w.heap.size 53 2 v k (O.flatMap se)
  told : ∀ j, j < k → ab2 O[j]! = pairF (it s (24 * j)) x
  sc : SC W b (it s (24 * k'))
  but : But b w W
  lt : b < w.heap.size
theorem RG.new {w : World} {b : Nat} {s : Int} (x : Nat) (hs : SC w b s) : RG w w b s x 0 0 (.slice none 0 0) [] :=
  ⟨rfl, World.ownsRow_nil _ _ _ _, fun j hj => by omega, hs, But.refl _ _, hs.lt⟩
theorem RG.took {w W W' : World} {b : Nat} {s : Int} {x k : Nat} {v : Value} {O : List (Nat × Nat)} (h : RG w W b s x k k v O) (hs : SC W' b (it (it s (24 * k)) 24)) (hb : But b W W') : RG w W' b s x k (k + 1) v O := by
  refine ⟨h.len, ?_, h.told, ?_, h.but.trans hb, h.lt⟩
  · refine World.ownsRow.kept h.own hb ?_
    rcases hv : v.ownBlock with _ | j
    · exact Or.inl rfl
    · right
      intro e
      have := (h.own.lt j hv).1
      have := h.lt
      cases e
      omega
  · rw [it_add] at hs
    exact hs
theorem up_new (w : World) (x y : Nat) : Up w ((w.alloc (.cells #[.float .f64 x, .float .f64 y] 53))) := Up.alloc _ _
theorem RG.push {w W W1 : World} {b : Nat} {s : Int} {x k u y : Nat} {v v' : Value} {O : List (Nat × Nat)} (h : RG w W b s x k (k + 1) v O) (hr : ab2 (u, y) = pairF (it s (24 * k)) x)
    (hown : W1.ownsRow w.heap.size 53 2 v' (k + 1) (O.flatMap se ++ [.float .f64 u, .float .f64 y])) (hg : (W.alloc (.cells #[.float .f64 u, .float .f64 y] 53)).grownBy W1 v.ownBlock) : RG w W1 b s x (k + 1) (k + 1) v' (O ++ [(u, y)]) := by
  have hu := Up.alloc W (.cells #[.float .f64 u, .float .f64 y] 53)
  have hne : ∀ j, v.ownBlock = some j → w.heap.size ≤ j := fun j hj => (h.own.lt j hj).1
  have hb : But b w W1 := by
    obtain ⟨a1, a2, a3, a4, a5⟩ := h.but.trans (But.of_up hu)
    obtain ⟨k1, k2, k3, k4, k5⟩ := hg
    exact ⟨k1.trans a1, k2.trans a2, k3.trans a3, Nat.le_trans a4 k4, fun j hj hn => (k5 j (Nat.lt_of_lt_of_le hj a4) (fun e => by have := hne j e.symm; omega)).trans (a5 j hj hn)⟩
  refine ⟨by simp [h.len], by rw [List.flatMap_append]; exact hown, ?_, ?_, hb, h.lt⟩
  · intro j hj
    by_cases e : j < k
    · rw [getElem!_pos _ j (by simp [h.len]; omega), List.getElem_append_left (by rw [h.len]; exact e), ← getElem!_pos O j (by rw [h.len]; exact e)]
      exact h.told j e
    · obtain rfl : j = k := by omega
      rw [getElem!_pos _ j (by simp [h.len]), List.getElem_append_right (by rw [h.len]; exact Nat.le_refl _)]
      simpa [h.len] using hr
  · have h1 := h.sc.up hu
    refine ⟨World.grownBy.cell hg h1.c ?_, (World.grownBy.frozen_far hg ⟨b, 0, none⟩ h1.lt ?_).trans h1.f⟩
    all_goals (intro e; have := hne b (by simpa using e.symm); have := h.lt; omega)
theorem RG.done {w W : World} {b : Nat} {s : Int} {x n : Nat} {v : Value} {O : List (Nat × Nat)} (h : RG w W b s x n n v O) : RS w b s x n (.returned v) W := by
  obtain ⟨rfl, h2, h3, h4, h5, h6⟩ := h
  exact ⟨_, O, rfl, h2, h4, h5, rows_of h3⟩
set_option maxHeartbeats 1000000 in
theorem t32 {b : Nat} {s : Int} {w : World} (h : SC w b s) (n x : Nat) (hn : n ≤ 16384) : Calls Try.prog 32 #[.pointer (some ⟨b, 0, none⟩), .int .i64 n, .float .f64 x] w (RS w b s x n) := by
  obtain ⟨i0, hi, hz0, hz1, hz2⟩ := info_parts info53
  have H : Hid (RG w w b s x 0 0 (.slice none 0 0) []) := RG.new x h
  clear h
  go_enter Try.func32, Try.ntmps32
  go_wp2
  go_loopw [7, 8] (fun v i wr => ∃ (k : Nat) (O : List (Nat × Nat)), k ≤ n ∧ i = .int .i64 k ∧ Hid (RG w wr b s x k k v O)) (fun _ i _ => n - (intOf i).toNat)
  case atStart => exact ⟨0, [], by omega, rfl, H⟩
  case round =>
    clear H
    obtain ⟨k, O, hk, rfl, HG⟩ := hrel
    by_cases hlt : k < n
    · have hkz : (k : Int) < (n : Int) := by omega
      go_wp2_with (first
        | (go_at_call 29; (with_reducible refine (t29 HG.out.sc x).mono ?_); rintro e w2 ⟨u, y, rfl, hr, hs, hb⟩; have HG2 : Hid (RG w w2 b s x k (k + 1) u7 O) := HG.out.took hs.out hb.out; clear HG hs hb; have o2 := HG2.out.own; have sz : w.heap.size ≤ w2.heap.size := HG2.out.but.size)
        | (at_builtin; refine wpList_append_own _ rfl _ _ 57 rfl w.heap.size 53 i0 (.agg #[.float .f64 0, .float .f64 0]) 2 16 Try.underlying57 hi hz0 hz1 hz2 rfl (by decide) _ _ _ rfl (owns_up o2 (up_new _ _ _)) ⟨w2.heap.size, 0, none⟩ 1 1 [.float .f64 u, .float .f64 y] rfl rfl (cell_new2 _ _ _ _) (two_cell _ _) (by unfold maxLen; omega) (by omega) (by simp; omega) ?_))
      intro v' w3 hown' hgrow _
      have HG3 : Hid (RG w w3 b s x (k + 1) (k + 1) v' (O ++ [(u, y)])) := HG2.out.push hr.out hown' hgrow
      clear hown' hgrow o2 HG2
      go_wp2
      go_roundw
      case rel => exact ⟨k + 1, _, by omega, by go_num, HG3⟩
      case measure => simp [intOf]; omega
    · obtain rfl : n = k := by omega
      go_wp2
      go_ret
      exact HG.out.done
end Go.Proofs.Ytcocliilapeelaa

/- The level of a place; whether what stands there is an echo. -/
import Derived.Test.YtfggdaebahdnfaaHd
namespace Go.Proofs.Ytfggdaebahdnfaa
open Go.ChangeShapes Go.WideShapes Go.ChangeAt Go.RowKit Go.Fl Go.Sort
attribute [local go_sem] run_store_float call35 call46 run_neg fold_eq fold_ne fold_lt fold_gt abs_eq

/-- The level of cells on both sides. -/
def levD (way : Int) (nth : Nat) (L R : Array Nat) : Option Nat :=
  if L.size + R.size = 0 then some 9218868437227405312 else if way = 3 then nthD (L ++ R) (min nth (L.size + R.size - 1)) else if way = 1 ∨ way = 2 then oneD way L R else meanD (L ++ R)
def lvD (way : Int) (G T nth : Nat) (d : Array Nat) (k : Nat) : Option Nat := levD way nth (lef d k G T) (rig d k G T)
theorem beq_no {n1 n2 : Nat} (h : ((n1 : Int) + (n2 : Int) == 0) = false) : 0 < n1 + n2 := by
  rw [beq_eq_false_iff_ne] at h; omega
theorem beq_yes {n1 n2 : Nat} (h : ((n1 : Int) + (n2 : Int) == 0) = true) : n1 + n2 = 0 := by
  rw [beq_iff_eq] at h; omega
theorem box4 (w : World) (a b c d : Value) (k : Nat) (v : Value) (h : #[a, b, c, d][k]? = some v) : (w.alloc (.cells #[a, b, c, d] 61)).cell? ⟨w.heap.size, k, none⟩ = some v := (World.cell?_alloc_at _ _ _ _ rfl).trans h
theorem inf_ab : ab 9218868437227405312 = some 9218868437227405312 := by decide +kernel
set_option maxHeartbeats 1000000 in
theorem t32 {w : World} {p : Option Addr} {n cap at0 G T N : Nat} {d : Array Nat} {way : Int} {f : Value} (hL : Lev w way f) (h : SV w p n cap d) (hn : n ≤ 16384) (hk : at0 < n) (hG : G ≤ 16384) (hT : T ≤ 16384) :
    Calls Try.prog 32 #[.agg #[f, .int .i64 G, .int .i64 T, .int .i64 N], .slice p n cap, .int .i64 at0] w (FU w (lvD way G T N d at0)) := by
  have H : Hid (SV w p n cap d) := h
  have HL : Hid (Lev w way f) := hL
  clear h hL
  have C49 : Hid (∀ W, Up w W → Calls Try.prog 49 #[.agg #[f, .int .i64 G, .int .i64 T, .int .i64 N], .slice p n cap, .int .i64 at0] W fun e w' => ∃ p1 n1 c1 p2 n2 c2, e = .returned (.tuple #[.slice p1 n1 c1, .slice p2 n2 c2]) ∧ Hid (SV w' p1 n1 c1 (lef d at0 G T)) ∧ Hid (SV w' p2 n2 c2 (rig d at0 G T)) ∧ (n1 ≤ 16384 ∧ n2 ≤ 16384) ∧ Hid (Up W w')) := fun W hu => t49 f N (H.out.up hu) hn hk hG hT
  rcases HL.out with ⟨b, hw, rfl, hb⟩ | ⟨rfl, rfl⟩ | ⟨hw1, hw2, hw3, rfl⟩
  · clear HL
    go_enter Try.func32, Try.ntmps32
    go_wp2_with (first
      | (go_at_call 49; (with_reducible refine (C49.out _ (Up.alloc _ _)).mono ?_); rintro e w1 ⟨p1, n1, c1, p2, n2, c2, rfl, S1, S2, ⟨b1, b2⟩, HU⟩; (have x0 := cell_up (box4 w _ _ _ _ 0 _ rfl) HU.out); (have x3 := cell_up (box4 w _ _ _ _ 3 _ rfl) HU.out); clear C49)
      | (go_at_call 50; (with_reducible refine (t50 _).mono ?_); rintro e w' ⟨rfl, hw⟩; subst w')
      | (go_at_call 69; (with_reducible refine (t69 (way := way) _ hw (cell_up hb ((Up.alloc _ _).trans HU.out)) S1.out S2.out (by omega) (by omega) (beq_no (by assumption))).mono ?_); rintro e w2 ⟨r, rfl, hr, HU2⟩))
    · go_ret
      refine FU.mk ?_ ((Up.alloc _ _).trans HU.out)
      unfold lvD levD
      rw [if_pos (by rw [S1.out.len, S2.out.len]; exact beq_yes (by assumption))]; exact inf_ab
    · go_ret
      refine FU.mk ?_ (((Up.alloc _ _).trans HU.out).trans HU2.out)
      unfold lvD levD
      rw [hr.out, if_neg (by rw [S1.out.len, S2.out.len]; exact Nat.ne_of_gt (beq_no (by assumption))), if_neg (by omega), if_pos hw]
  · clear HL
    go_enter Try.func32, Try.ntmps32
    go_wp2_with (first
      | (go_at_call 49; (with_reducible refine (C49.out _ (Up.alloc _ _)).mono ?_); rintro e w1 ⟨p1, n1, c1, p2, n2, c2, rfl, S1, S2, ⟨b1, b2⟩, HU⟩; (have x0 := cell_up (box4 w _ _ _ _ 0 _ rfl) HU.out); (have x3 := cell_up (box4 w _ _ _ _ 3 _ rfl) HU.out); clear C49)
      | (go_at_call 50; (with_reducible refine (t50 _).mono ?_); rintro e w' ⟨rfl, hw⟩; subst w')
      | (go_at_call 63; (with_reducible refine (t63 (k := N) S1.out S2.out (by omega) (by omega) (beq_no (by assumption))).mono ?_); rintro e w2 ⟨r, rfl, hr, HU2⟩))
    · go_ret
      refine FU.mk ?_ ((Up.alloc _ _).trans HU.out)
      unfold lvD levD
      rw [if_pos (by rw [S1.out.len, S2.out.len]; exact beq_yes (by assumption))]; exact inf_ab
    · go_ret
      refine FU.mk ?_ (((Up.alloc _ _).trans HU.out).trans HU2.out)
      unfold lvD levD
      rw [hr.out, if_neg (by rw [S1.out.len, S2.out.len]; exact Nat.ne_of_gt (beq_no (by assumption))), if_pos rfl, S1.out.len, S2.out.len]
  · clear HL
    go_enter Try.func32, Try.ntmps32
    go_wp2_with (first
      | (go_at_call 49; (with_reducible refine (C49.out _ (Up.alloc _ _)).mono ?_); rintro e w1 ⟨p1, n1, c1, p2, n2, c2, rfl, S1, S2, ⟨b1, b2⟩, HU⟩; (have x0 := cell_up (box4 w _ _ _ _ 0 _ rfl) HU.out); (have x3 := cell_up (box4 w _ _ _ _ 3 _ rfl) HU.out); clear C49)
      | (go_at_call 50; (with_reducible refine (t50 _).mono ?_); rintro e w' ⟨rfl, hw⟩; subst w')
      | (go_at_call 59; (with_reducible refine (t59 _ S1.out S2.out (by omega) (by omega) (beq_no (by assumption))).mono ?_); rintro e w2 ⟨r, rfl, hr, HU2⟩))
    · go_ret
      refine FU.mk ?_ ((Up.alloc _ _).trans HU.out)
      unfold lvD levD
      rw [if_pos (by rw [S1.out.len, S2.out.len]; exact beq_yes (by assumption))]; exact inf_ab
    · go_ret
      refine FU.mk ?_ (((Up.alloc _ _).trans HU.out).trans HU2.out)
      unfold lvD levD
      rw [hr.out, if_neg (by rw [S1.out.len, S2.out.len]; exact Nat.ne_of_gt (beq_no (by assumption))), if_neg hw3, if_neg (by omega)]
end Go.Proofs.Ytfggdaebahdnfaa

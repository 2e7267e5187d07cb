/- The statement on sums and places of floats, walked: an empty list. -/
import Derived.Test.YtfifdngcdknbbaaL
namespace Go.Proofs.Ytfifdngcdknbbaa
open Go.ChangeShapes Go.WideShapes Go.ChangeAt Go.RowKit Go.Fl Go.Sort
attribute [local go_sem] run_store_float run_store_complex call12 call32 run_neg fold_eq fold_ne fold_lt fold_gt abs_eq

theorem t11e (p q : Option Addr) (c1 c2 : Nat) (w : World) : Calls Try.prog 11 #[.slice p 0 c1, .slice q 0 c2] w fun e w' => e = .returned (.bool true) ∧ w' = w := by
  go_enter Try.func11, Try.ntmps11
  go_wp2
  go_loopw [5, 6] (fun vi _ wr => vi = .int .i64 0 ∧ wr = w) (fun _ _ _ => 0)
  case atStart => exact ⟨rfl, rfl⟩
  case round =>
    obtain ⟨rfl, rfl⟩ := hrel
    go_wp2
    go_ret
    exact ⟨rfl, rfl⟩
theorem bad9 (p : Option Addr) (c : Nat) (z : Int) (w : World) : Calls Try.prog 9 #[.slice p 0 c, .int .i64 z] w fun e w' => e = .returned (.tuple #[.float .f64 0, .int .i64 2]) ∧ w' = w := t9bad p 0 c z w (by omega)
theorem bad10 (p : Option Addr) (c : Nat) (z : Int) (w : World) : Calls Try.prog 10 #[.slice p 0 c, .int .i64 z] w fun e w' => e = .returned (.tuple #[.float .f64 0, .int .i64 2]) ∧ w' = w := t10bad p 0 c z w (by omega)
/-- What is kept: the seven behind the end. -/
def Be (w : World) (gr : Nat) (W : World) : Prop := W.cell? ⟨gr, 0, none⟩ = some (.float .f64 4619567317775286272) ∧ Up w W
theorem Be.up {w W W' : World} {gr : Nat} (h : Be w gr W) (hu : Up W W') : Hid (Be w gr W') := ⟨cell_up h.1 hu, h.2.trans hu⟩
theorem be_of {w w2 : World} {v2 : Value} (ho : w2.ownsRow w.heap.size 23 1 v2 1 [.float .f64 4619567317775286272]) (hu : Up w w2) : ∃ gr cr, v2 = .slice (some ⟨gr, 0, none⟩) 1 cr ∧ Hid (Be w gr w2) := by
  obtain ⟨gr, cr, hv, _, _, hr⟩ := own_reads (own_list (l := [4619567317775286272]) (by simp) ho)
  exact ⟨gr, cr, hv, hr 0 (by simp), hu⟩
theorem cell_new2 (w : World) (o : Obj) (x : Nat) (t : TypeId) : ∀ (j : Nat) (u : Value), [Value.float .f64 x][j]? = some u → ((w.alloc o).alloc (.cells #[.float .f64 x] t)).cell? ((⟨w.heap.size + 1, 0, none⟩ : Addr).add j) = some u := by
  have h := cell_new (w.alloc o) x t
  simpa using h
set_option maxHeartbeats 4000000 in
theorem t3e (p : Option Addr) (cap : Nat) (n : Int) (w : World) (hp : p = none → cap = 0) : Calls Try.prog 3 #[.slice p 0 cap, .int .i64 n] w (KV w (.bool true)) := by
  obtain ⟨i0, hi, hz0, hz1, hz2⟩ := info_parts info23
  have hown : (w.alloc (.cells #[] 23)).ownsRow w.heap.size 23 1 (.slice (some ⟨w.heap.size, 0, none⟩) 0 0) 0 [] := own_empty w
  cases p with
  | none =>
    obtain rfl := hp rfl
    go_enter Try.func3, Try.ntmps3
    go_wp2_with (at_builtin; refine wpList_append_own _ rfl _ _ 22 rfl w.heap.size 23 i0 (.float .f64 0) 1 8 Try.underlying22 hi hz0 hz1 hz2 rfl (by decide) _ _ _ rfl (hown.alloc _) ⟨w.heap.size + 1, 0, none⟩ 1 1 [.float .f64 4619567317775286272] rfl rfl (cell_new2 _ _ _ _) (one_cell _) (by unfold maxLen; omega) (by omega) (by simp; omega) ?_)
    intro v2 w2 hown2 hgrow _
    have U2 : Up w w2 := RowKit.Below.grown (((Below.refl _ _).alloc (Nat.le_refl _) _).alloc (by simp) _) hgrow (by simp; omega) (fun k hk => by simp [Value.ownBlock] at hk; omega)
    obtain ⟨gr, cr, hv2, B0⟩ := be_of (by simpa using hown2) U2
    subst hv2
    clear hown2 hgrow hown U2
    go_wp2_with (first
      | (go_at_call 7; (with_reducible refine (t7e _ _ _).mono ?_); rintro e w3 ⟨r1, rfl, h1, hu⟩; replace B0 := B0.out.up hu.out; clear hu)
      | (go_at_call 8; (with_reducible refine (t8e _ _ _).mono ?_); rintro e w4 ⟨r2, k2, rfl, rfl, h2⟩; replace B0 := B0.out.up (Up.drewN _ k2))
      | (go_at_call 6; (with_reducible refine (t6t _ (h1.out.trans h2.out.symm)).mono ?_); rintro e w5 ⟨rfl, rfl⟩))
    have I0 : Hid (ReadsI ((w3.drewN k2).alloc (.cells #[.int .i64 n, .int .i64 0, .int .i64 (-1), .int .i64 0, .int .i64 (-1), .int .i64 0] 3)) w3.heap.size 6) := newI (w3.drewN k2) [n, 0, -1, 0, -1, 0] 3
    replace B0 := B0.out.up (Up.alloc _ (.cells #[.int .i64 n, .int .i64 0, .int .i64 (-1), .int .i64 0, .int .i64 (-1), .int .i64 0] 3))
    obtain ⟨gi, hgi⟩ : ∃ gi, w3.heap.size = gi := ⟨_, rfl⟩
    rw [hgi] at I0 ⊢
    clear hgi h1 h2
    go_loopw [8, 9, 10, 11, 12] (fun vi _ _ _ _ wr => ∃ i : Nat, i ≤ 6 ∧ vi = .int .i64 i ∧ Hid (Be w gr wr) ∧ Hid (ReadsI wr gi 6)) (fun vi _ _ _ _ _ => 6 - (intOf vi).toNat)
    case atStart => exact ⟨0, by omega, rfl, B0, I0⟩
    case round =>
      clear B0 I0
      obtain ⟨i, hi6, rfl, B0, I0⟩ := hrel
      rename World => W1
      by_cases hlt : i < 6
      · obtain ⟨z, hz⟩ := I0.out i hlt
        have hiz : (i : Int) < 6 := by omega
        go_wp2_with (first
          | (go_at_call 9; (with_reducible refine (bad9 _ _ _ _).mono ?_); rintro e w6 ⟨rfl, rfl⟩)
          | (go_at_call 10; (with_reducible refine (bad10 _ _ _ _).mono ?_); rintro e w7 ⟨rfl, rfl⟩)
          | (go_at_call 6; (with_reducible refine (t6t _ rfl).mono ?_); rintro e w8 ⟨rfl, rfl⟩))
        go_roundw
        case rel => exact ⟨i + 1, by omega, by go_num, B0, I0⟩
        case measure => simp [intOf]; omega
      · obtain rfl : i = 6 := by omega
        have hz7 := B0.out.1
        go_wp2_with (first
          | (go_at_call 11; (with_reducible refine (t11e _ _ _ _ _).mono ?_); rintro e w8 ⟨rfl, rfl⟩)
          | (go_at_call 13; (with_reducible refine (t13 _).mono ?_); rintro e w9 ⟨rfl, hu⟩; replace B0 := B0.out.up hu.out; clear hu))
        go_ret
        exact ⟨rfl, B0.out.2⟩
  | some a =>
    go_enter Try.func3, Try.ntmps3
    go_wp2_with (at_builtin; refine wpList_append_own _ rfl _ _ 22 rfl w.heap.size 23 i0 (.float .f64 0) 1 8 Try.underlying22 hi hz0 hz1 hz2 rfl (by decide) _ _ _ rfl hown a 0 cap [] rfl rfl (by intro j u hj; simp at hj) (by intro u hu; simp at hu) (by unfold maxLen; omega) (by omega) (by simp) ?_)
    intro v1 w1 hown1 hgrow _
    have U1 : Hid (Up w w1) := RowKit.Below.grown ((Below.refl _ _).alloc (Nat.le_refl _) _) hgrow (by simp) (fun k hk => by simp [Value.ownBlock] at hk; omega)
    have hown1' : w1.ownsRow w.heap.size 23 1 v1 0 (([] : List Nat).map fe) := by simpa using hown1
    clear hown1 hgrow hown
    have sz1 : w.heap.size ≤ w1.heap.size := RowKit.Below.size U1.out
    go_wp2_with (at_builtin; refine wpList_append_own _ rfl _ _ 22 rfl w.heap.size 23 i0 (.float .f64 0) 1 8 Try.underlying22 hi hz0 hz1 hz2 rfl (by decide) _ _ _ rfl (hown1'.alloc _) ⟨w1.heap.size, 0, none⟩ 1 1 [.float .f64 4619567317775286272] rfl rfl (cell_new _ _ _) (one_cell _) (by unfold maxLen; omega) (by omega) (by simp; omega) ?_)
    intro v2 w2 hown2 hgrow _
    obtain ⟨R1, R2⟩ := row_push1 (n := 0) hown1' U1.out hown2 hgrow
    obtain ⟨gr, cr, hv2, B0⟩ := be_of (by simpa using R1) R2
    subst hv2
    clear hown2 hgrow R1 R2 hown1' U1
    go_wp2_with (first
      | (go_at_call 7; (with_reducible refine (t7e _ _ _).mono ?_); rintro e w3 ⟨r1, rfl, h1, hu⟩; replace B0 := B0.out.up hu.out; clear hu)
      | (go_at_call 8; (with_reducible refine (t8e _ _ _).mono ?_); rintro e w4 ⟨r2, k2, rfl, rfl, h2⟩; replace B0 := B0.out.up (Up.drewN _ k2))
      | (go_at_call 6; (with_reducible refine (t6t _ (h1.out.trans h2.out.symm)).mono ?_); rintro e w5 ⟨rfl, rfl⟩))
    have I0 : Hid (ReadsI ((w3.drewN k2).alloc (.cells #[.int .i64 n, .int .i64 0, .int .i64 (-1), .int .i64 0, .int .i64 (-1), .int .i64 0] 3)) w3.heap.size 6) := newI (w3.drewN k2) [n, 0, -1, 0, -1, 0] 3
    replace B0 := B0.out.up (Up.alloc _ (.cells #[.int .i64 n, .int .i64 0, .int .i64 (-1), .int .i64 0, .int .i64 (-1), .int .i64 0] 3))
    obtain ⟨gi, hgi⟩ : ∃ gi, w3.heap.size = gi := ⟨_, rfl⟩
    rw [hgi] at I0 ⊢
    clear hgi h1 h2
    go_loopw [8, 9, 10, 11, 12] (fun vi _ _ _ _ wr => ∃ i : Nat, i ≤ 6 ∧ vi = .int .i64 i ∧ Hid (Be w gr wr) ∧ Hid (ReadsI wr gi 6)) (fun vi _ _ _ _ _ => 6 - (intOf vi).toNat)
    case atStart => exact ⟨0, by omega, rfl, B0, I0⟩
    case round =>
      clear B0 I0
      obtain ⟨i, hi6, rfl, B0, I0⟩ := hrel
      rename World => W1
      by_cases hlt : i < 6
      · obtain ⟨z, hz⟩ := I0.out i hlt
        have hiz : (i : Int) < 6 := by omega
        go_wp2_with (first
          | (go_at_call 9; (with_reducible refine (bad9 _ _ _ _).mono ?_); rintro e w6 ⟨rfl, rfl⟩)
          | (go_at_call 10; (with_reducible refine (bad10 _ _ _ _).mono ?_); rintro e w7 ⟨rfl, rfl⟩)
          | (go_at_call 6; (with_reducible refine (t6t _ rfl).mono ?_); rintro e w8 ⟨rfl, rfl⟩))
        go_roundw
        case rel => exact ⟨i + 1, by omega, by go_num, B0, I0⟩
        case measure => simp [intOf]; omega
      · obtain rfl : i = 6 := by omega
        have hz7 := B0.out.1
        go_wp2_with (first
          | (go_at_call 11; (with_reducible refine (t11e _ _ _ _ _).mono ?_); rintro e w8 ⟨rfl, rfl⟩)
          | (go_at_call 13; (with_reducible refine (t13 _).mono ?_); rintro e w9 ⟨rfl, hu⟩; replace B0 := B0.out.up hu.out; clear hu))
        go_ret
        exact ⟨rfl, B0.out.2⟩
end Go.Proofs.Ytfifdngcdknbbaa

/- Steps of any order: the walk of the statement. -/
import Derived.Test.YtoncdgkcmbainaaW
namespace Go.Proofs.Ytoncdgkcmbainaa
open Go.ChangeShapes Go.WideShapes Go.ChangeAt Go.RowKit Go.Fl Ieee

theorem info3 : (Try.prog.info? 3).map (fun i => (i.zero, i.size, i.bytes)) = some (some (.int .i64 0), 1, 8) := by kernel_rfl
/-- A row that came in, laid behind a row of one's own. -/
theorem wpList_append_in {w : World} {ops : Array Oper} {rest : List Oper} {op : Oper} {a : Act} {Q : Exit → Act → World → Prop} (hgd : op.guard = none) (s x : Operand)
    (ho : op.op = .call { callee := .builtin .append, args := #[s, x], argTypes := #[36, 36] }) (base : Nat) (v : Value) (hs : a.eval s = v) (hown : w.ownsRow base 3 1 v 0 []) (p : Option Addr) (cap : Nat) (o : List Int) (hx : a.eval x = .slice p o.length cap)
    (hR : IRow w (.slice p o.length cap) o) (hp : p = none → o.length = 0 ∧ cap = 0) (hlen : o.length ≤ 1048576) (hbase : base ≤ w.heap.size)
    (h : ∀ v' w', w'.ownsRow base 3 1 v' o.length (o.map (Value.int .i64)) → w.grownBy w' v.ownBlock → wpList Try.prog ops Q rest (a.put op.dst v') w') : wpList Try.prog ops Q (op :: rest) a w := by
  obtain ⟨i0, hi, hz0, hz1, hz2⟩ := info_parts info3
  cases p with
  | none =>
    obtain ⟨h0, rfl⟩ := hp rfl
    obtain rfl := List.eq_nil_of_length_eq_zero h0
    refine wpList_plain hgd fun K hK => ?_
    have hr := run_append_owned_none (P := Try.prog) w base 36 op.type 3 i0 1 Try.underlying36 hi v 0 [] hown
    unfold Oper.wp execOp
    simp only [ho, resolve, invoke, builtin, Sem.run_bind, Sem.run_pure, Result.andThen_ok, List.map_toArray, List.map_cons, List.map_nil, hs, hx, List.length_nil, hr]
    exact hK _ _ (h v w hown ⟨rfl, rfl, rfl, Nat.le_refl _, fun _ _ _ => rfl⟩)
  | some ad =>
    refine wpList_append_own w hgd s x 36 ho base 3 i0 (.int .i64 0) 1 8 Try.underlying36 hi hz0 hz1 hz2 rfl (by decide) v 0 [] hs hown ad o.length cap (o.map (Value.int .i64)) hx (by simp) ?_ ?_ (by unfold maxLen; omega) (by omega) hbase ?_
    · intro j u hj
      obtain ⟨p, c, he, hc⟩ := hR
      simp only [Value.slice.injEq] at he
      obtain ⟨rfl, _, rfl⟩ := he
      rw [List.getElem?_map, Option.map_eq_some_iff] at hj
      obtain ⟨z, hz, rfl⟩ := hj
      obtain ⟨hl, hz⟩ := List.getElem?_eq_some_iff.1 hz
      obtain ⟨blk, off, hb, hcell⟩ := hc j hl
      cases hb
      rw [getElem!_pos o j hl, hz] at hcell
      rw [← hcell]
      unfold Addr.add
      split
      · rename_i h0; rw [h0]; rfl
      · rfl
    · intro u hu
      obtain ⟨z, _, rfl⟩ := List.mem_map.1 hu
      rfl
    · intro v' w' h1 h2 _
      rw [Nat.zero_add, List.nil_append] at h1
      exact h v' w' h1 h2
/-- Numbers in memory of their own, with marks behind them. -/
structure Lent (w0 w : World) (gr cr : Nat) (o : List Int) : Prop where
  row : w.ownsRow w0.heap.size 3 1 (.slice (some ⟨gr, 0, none⟩) (o.length + 2) cr) (o.length + 2) ((o ++ [77, 78]).map (Value.int .i64))
  up : Up w0 w
  le : o.length + 2 ≤ cr
theorem Lent.upon {w0 w w' : World} {gr cr : Nat} {o : List Int} (h : Lent w0 w gr cr o) (hu : Up w w') : Lent w0 w' gr cr o := ⟨owns_up h.row hu, h.up.trans hu, h.le⟩
theorem Lent.cell {w0 w : World} {gr cr : Nat} {o : List Int} (h : Lent w0 w gr cr o) {i : Nat} (hi : i < o.length + 2) : w.cell? ⟨gr, i, none⟩ = some (.int .i64 (o ++ [77, 78])[i]!) := by
  have hl : i < (o ++ [77, 78]).length := by simpa using hi
  rw [World.ownsRow.cellAt h.row i (by omega), List.getElem?_map, List.getElem?_eq_getElem hl, getElem!_pos _ i hl]
  rfl
theorem Lent.low {w0 w : World} {gr cr : Nat} {o : List Int} (h : Lent w0 w gr cr o) {i : Nat} (hi : i < o.length) : w.cell? ⟨gr, i, none⟩ = some (.int .i64 o[i]!) := by
  rw [h.cell (by omega), getElem!_pos _ i (by simp; omega), List.getElem_append_left hi, getElem!_pos o i hi]
theorem Lent.marks {w0 w : World} {gr cr : Nat} {o : List Int} (h : Lent w0 w gr cr o) : w.cell? ⟨gr, o.length, none⟩ = some (.int .i64 77) ∧ w.cell? ⟨gr, o.length + 1, none⟩ = some (.int .i64 78) := by
  constructor
  · rw [h.cell (by omega), getElem!_pos _ _ (by simp), List.getElem_append_right (by omega)]
    simp
  · rw [h.cell (by omega), getElem!_pos _ _ (by simp), List.getElem_append_right (by omega)]
    simp
theorem Lent.irow {w0 w : World} {gr cr : Nat} {o : List Int} (h : Lent w0 w gr cr o) : IRow w (.slice (some ⟨gr, 0, none⟩) o.length cr) o :=
  ⟨_, cr, rfl, fun i hi => ⟨gr, 0, rfl, by rw [Nat.zero_add]; exact h.low hi⟩⟩
theorem lent_of {w w1 w2 wa : World} {v1 v2 : Value} {o : List Int} (h1 : w1.ownsRow w.heap.size 3 1 v1 o.length (o.map (Value.int .i64))) (u1 : Up w w1) (ua : Up w1 wa) (h2 : w2.ownsRow w.heap.size 3 1 v2 (o.length + 2) (o.map (Value.int .i64) ++ [.int .i64 77, .int .i64 78])) (hg : wa.grownBy w2 v1.ownBlock) : ∃ gr cr, v2 = .slice (some ⟨gr, 0, none⟩) (o.length + 2) cr ∧ Lent w w2 gr cr o := by
  have hb := Below.grown (u1.trans ua) hg (Nat.le_trans u1.size ua.size) (fun j hj => (h1.lt j hj).1)
  rcases h2.2 with ⟨_, h0⟩ | ⟨g, cap, cur, rfl, _, _, hc, _⟩
  · omega
  · refine ⟨g, cap, rfl, ?_, hb, hc⟩
    rw [List.map_append]
    exact h2
theorem own_empty3 (w : World) : (w.alloc (.cells #[] 3)).ownsRow w.heap.size 3 1 (.slice (some ⟨w.heap.size, 0, none⟩) 0 0) 0 [] :=
  ⟨by simp, .inr ⟨w.heap.size, 0, #[], rfl, Nat.le_refl _, heap_alloc_last _ _, Nat.le_refl _, Nat.zero_le _, rfl, rfl⟩⟩
theorem two_new (w : World) (x y : Int) (t : TypeId) : ∀ (j : Nat) (u : Value), [Value.int .i64 x, .int .i64 y][j]? = some u → (w.alloc (.cells #[.int .i64 x, .int .i64 y] t)).cell? ((⟨w.heap.size, 0, none⟩ : Addr).add j) = some u := by
  intro j u hj
  match j, hj with
  | 0, hj => simp at hj; subst hj; exact World.cell?_alloc_at _ _ _ _ rfl
  | 1, hj => simp at hj; subst hj; exact World.cell?_alloc_at _ _ _ _ rfl
theorem two_new2 (w : World) (b : Obj) (x y : Int) (t : TypeId) : ∀ (j : Nat) (u : Value), [Value.int .i64 x, .int .i64 y][j]? = some u → ((w.alloc b).alloc (.cells #[.int .i64 x, .int .i64 y] t)).cell? ((⟨w.heap.size + 1, 0, none⟩ : Addr).add j) = some u := by
  have e : w.heap.size + 1 = (w.alloc b).heap.size := by simp
  rw [e]
  exact two_new (w.alloc b) x y t
theorem two_one (x y : Int) : ∀ u ∈ [Value.int .i64 x, .int .i64 y], u.oneCell' = true := by
  intro u hu; simp at hu; rcases hu with rfl | rfl <;> rfl
set_option maxHeartbeats 4000000 in
theorem t5s (o : List Int) (ad : Addr) (cap : Nat) (n : Int) (w : World) (hR : IRow w (.slice (some ad) o.length cap) o) (hn : n ≤ 9223372036854775807) (hK : o.length ≤ 1048576) : Calls Try.prog 5 #[.slice (some ad) o.length cap, .int .i64 n] w (TU w) := by
  obtain ⟨i0, hi, hz0, hz1, hz2⟩ := info_parts info3
  have HR : Hid (IRow w (.slice (some ad) o.length cap) o) := hR
  clear hR
  have hown : (w.alloc (.cells #[] 3)).ownsRow w.heap.size 3 1 (.slice (some ⟨w.heap.size, 0, none⟩) 0 0) 0 [] := own_empty3 w
  go_enter Try.func5, Try.ntmps5
  go_wp2_with (first
    | (at_builtin; refine wpList_append_in rfl _ _ rfl w.heap.size (.slice (some ⟨w.heap.size, 0, none⟩) 0 0) rfl hown (some ad) cap o rfl (HR.out.up (Up.alloc _ _)) (fun h => by cases h) hK (by simp) ?_; intro v1 w1 h1 hg1; have U1 : Hid (Up w w1) := Below.grown ((Below.refl _ _).alloc (Nat.le_refl _) _) hg1 (by simp) (fun k hk => by simp [Value.ownBlock] at hk; omega); have sz1 : w.heap.size ≤ w1.heap.size := U1.out.size; clear hg1 hown)
    | (at_builtin; refine wpList_append_own _ rfl _ _ 36 rfl w.heap.size 3 i0 (.int .i64 0) 1 8 Try.underlying36 hi hz0 hz1 hz2 rfl (by decide) _ _ _ rfl (h1.alloc _) ⟨w1.heap.size, 0, none⟩ 2 2 [.int .i64 77, .int .i64 78] rfl rfl (two_new _ _ _ _) (two_one _ _) (by unfold maxLen; omega) (by omega) (by simp; omega) ?_))
  intro v2 w2 h2 hg2 _
  obtain ⟨gr, cr, hv2, hL⟩ := lent_of h1 U1.out (Up.alloc _ _) h2 hg2
  subst hv2
  have L2 : Hid (Lent w w2 gr cr o) := hL
  have hcr := hL.le
  clear h1 h2 hg2 hL
  go_wp2_with (first
    | (go_at_call 19; (with_reducible refine (t19 o _ _ _ (HR.out.up L2.out.up) (by omega) hn).mono ?_); rintro e w3 ⟨vw, dw, rfl, rw3, y3, e3⟩)
    | (go_at_call 20; (with_reducible refine (t20 o _ _ w3 ((L2.out.upon y3.out).irow) (by omega) hn).mono ?_); rintro e w4 ⟨va, da, rfl, ra, y4, e4⟩)
    | (go_at_call 20; (with_reducible refine (t20 o _ _ w4 (((L2.out.upon y3.out).upon y4.out).irow) (by omega) hn).mono ?_); rintro e w5 ⟨vb, db, rfl, rb, y5, e5⟩))
  go_loopw [13] (fun vi wr => ∃ i : Nat, i ≤ o.length ∧ vi = .int .i64 i ∧ Hid (Up w5 wr)) (fun vi _ => o.length - (intOf vi).toNat)
  case atStart => exact ⟨0, by omega, rfl, Up.refl _⟩
  case round =>
    obtain ⟨i, hi', rfl, HU⟩ := hrel
    by_cases hlt : i < o.length
    · obtain ⟨p0, c0, he, hc⟩ := HR.out
      simp only [Value.slice.injEq] at he
      obtain ⟨rfl, _, rfl⟩ := he
      obtain ⟨blk, off, hb, hc0⟩ := hc i hlt
      cases hb
      have U2r : Up w2 wr := ((y3.out.trans y4.out).trans y5.out).trans HU.out
      have c1 := cell_up hc0 (L2.out.up.trans U2r)
      have c2 := (L2.out.upon U2r).low hlt
      generalize o[i]! = z at c1 c2
      have hiz : (i : Int) < (o.length : Int) := by omega
      have hiz2 : (0 : Int) ≤ (i : Int) := by omega
      clear hc hc0 U2r
      go_wp2_with fail
      go_region_held3 (fun w' => w'.cell? ⟨blk, off + i, none⟩ = some (.int .i64 z) ∧ w'.cell? ⟨gr, i, none⟩ = some (.int .i64 z)) (go_keep) (fail)
      all_goals (try go_wp2)
      all_goals
        go_roundw
        case rel => exact ⟨i + 1, by omega, by go_num, HU.out.trans (Up.drewN _ 1)⟩
        case measure => simp [intOf]; omega
    · obtain rfl : o.length = i := by omega
      have U3r : Hid (Up w4 wr) := y5.out.trans HU.out
      have rbr : Hid (CRow w4.heap.size wr vb db) := rb.out.up HU.out
      go_wp2_with (first
        | (go_at_call 11; (with_reducible refine (told_ok rw3 e3 ra y4 e4 rbr U3r e5 (stepsL_len _ _)).mono ?_); rintro e w6 ⟨rfl, y6⟩; have L6 : Hid (Lent w w6 gr cr o) := (L2.out.upon y3.out).upon y6.out; obtain ⟨m1, m2⟩ := L6.out.marks)
        | (go_at_call 12; refine (t12 _).mono ?_; rintro e w7 ⟨rfl, y7⟩))
      go_ret
      exact ⟨rfl, L6.out.up.trans y7.out⟩
set_option maxHeartbeats 4000000 in
theorem t5e (n : Int) (w : World) (hn : n ≤ 9223372036854775807) : Calls Try.prog 5 #[.slice none 0 0, .int .i64 n] w (TU w) := by
  obtain ⟨i0, hi, hz0, hz1, hz2⟩ := info_parts info3
  obtain ⟨o, ho⟩ : ∃ o : List Int, o = [] := ⟨_, rfl⟩
  have HO : Hid (o = []) := ho
  have HZ : Hid (o.length = 0) := by rw [ho]; exact rfl
  have HR : Hid (IRow w (.slice none 0 0) o) := ⟨none, 0, by rw [ho]; rfl, fun i hi => by rw [ho] at hi; exact absurd hi (Nat.not_lt_zero _)⟩
  clear ho
  have hown : (w.alloc (.cells #[] 3)).ownsRow w.heap.size 3 1 (.slice (some ⟨w.heap.size, 0, none⟩) 0 0) 0 [] := own_empty3 w
  go_enter Try.func5, Try.ntmps5
  go_wp2_with (at_builtin; refine wpList_append_own _ rfl _ _ 36 rfl w.heap.size 3 i0 (.int .i64 0) 1 8 Try.underlying36 hi hz0 hz1 hz2 rfl (by decide) _ _ _ rfl (hown.alloc _) ⟨w.heap.size + 1, 0, none⟩ 2 2 [.int .i64 77, .int .i64 78] rfl rfl (two_new2 _ _ _ _ _) (two_one _ _) (by unfold maxLen; omega) (by omega) (by simp; omega) ?_)
  intro v2 w2 h2 hg2 _
  have hown' : (w.alloc (.cells #[] 3)).ownsRow w.heap.size 3 1 (.slice (some ⟨w.heap.size, 0, none⟩) 0 0) o.length (o.map (Value.int .i64)) := by rw [HO.out]; exact hown
  obtain ⟨gr, cr, hv2, hL⟩ := lent_of (w2 := w2) (v2 := v2) hown' (Up.alloc _ _) (Up.alloc _ _) (by rw [HO.out]; simpa using h2) hg2
  rw [HZ.out] at hv2
  subst hv2
  have L2 : Hid (Lent w w2 gr cr o) := hL
  have hcr : 2 ≤ cr := by have := hL.le; rw [HZ.out] at this; omega
  clear hown' h2 hg2 hL hown
  have HKL : Hid (o.length < 1000000000) := by show _ < _; rw [HZ.out]; omega
  have HI2 : Hid (∀ w' : World, Lent w w' gr cr o → IRow w' (.slice (some ⟨gr, 0, none⟩) 0 cr) o) := fun w' h => by have := h.irow; rw [HZ.out] at this; exact this
  go_wp2_with (first
    | (go_at_call 19; (with_reducible refine (t19 o _ _ _ (HR.out.up L2.out.up) HKL.out hn).mono ?_); rintro e w3 ⟨vw, dw, rfl, rw3, y3, e3⟩)
    | (go_at_call 20; (with_reducible refine (t20 o _ _ w3 (HI2.out _ (L2.out.upon y3.out)) HKL.out hn).mono ?_); rintro e w4 ⟨va, da, rfl, ra, y4, e4⟩)
    | (go_at_call 20; (with_reducible refine (t20 o _ _ w4 (HI2.out _ ((L2.out.upon y3.out).upon y4.out)) HKL.out hn).mono ?_); rintro e w5 ⟨vb, db, rfl, rb, y5, e5⟩))
  go_loopw [13] (fun vi wr => vi = .int .i64 0 ∧ Hid (Up w5 wr)) (fun _ _ => 0)
  case atStart => exact ⟨rfl, Up.refl _⟩
  case round =>
    obtain ⟨rfl, HU⟩ := hrel
    have U3r : Hid (Up w4 wr) := y5.out.trans HU.out
    have rbr : Hid (CRow w4.heap.size wr vb db) := rb.out.up HU.out
    go_wp2_with (first
      | (go_at_call 11; (with_reducible refine (told_ok rw3 e3 ra y4 e4 rbr U3r e5 (stepsL_len _ _)).mono ?_); rintro e w6 ⟨rfl, y6⟩; have L6 : Hid (Lent w w6 gr cr o) := (L2.out.upon y3.out).upon y6.out; obtain ⟨m1, m2⟩ := L6.out.marks; rw [HZ.out] at m1 m2)
      | (go_at_call 12; refine (t12 _).mono ?_; rintro e w7 ⟨rfl, y7⟩))
    go_ret
    exact ⟨rfl, L6.out.up.trans y7.out⟩
theorem t5b (p : Option Addr) (K cap : Nat) (n : Int) (w : World) (hK : 1048576 < K) : Calls Try.prog 5 #[.slice p K cap, .int .i64 n] w (TU w) := by
  have hK2 : (1048576 : Int) < K := by omega
  go_enter Try.func5, Try.ntmps5
  go_wp2_with (go_at_call 12; refine (t12 _).mono ?_; rintro e w1 ⟨rfl, y1⟩)
  go_ret
  exact ⟨rfl, y1⟩
end Go.Proofs.Ytoncdgkcmbainaa

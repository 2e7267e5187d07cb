/- Lists alike; numbers lent and kept; FoldJoins. -/
import Derived.Test.YtpahjenfkgcdlaaM
namespace Go.Proofs.Ytpahjenfkgcdlaa
open Go.ChangeShapes Go.WideShapes Go.ChangeAt Go.RowKit

set_option maxHeartbeats 1000000 in
theorem t19 (p q : Option Addr) (n c1 c2 : Nat) (f : Nat → Int) (w : World) (hn : n < 4611686018427387904) (h1 : IR w p n f) (h2 : IR w q n f) : Calls Try.prog 19 #[.slice p n c1, .slice q n c2] w fun e w' => e = .returned (.bool true) ∧ Hid (Up w w') := by
  have H1 : Hid (IR w p n f) := h1
  have H2 : Hid (IR w q n f) := h2
  clear h1 h2
  have hnz : (n : Int) < 4611686018427387904 := by omega
  go_enter Try.func19, Try.ntmps19
  go_wp2
  go_loopw [5] (fun vi wr => ∃ i : Nat, i ≤ n ∧ vi = .int .i64 i ∧ Hid (Up w wr)) (fun vi _ => n - (intOf vi).toNat)
  case atStart => exact ⟨0, by omega, rfl, Up.refl _⟩
  case round =>
    obtain ⟨i, hi, rfl, HU⟩ := hrel
    by_cases hlt : i < n
    · obtain ⟨b1, o1, rfl, d1⟩ := H1.out i hlt
      obtain ⟨b2, o2, rfl, d2⟩ := H2.out i hlt
      have e1 := cell_up d1 HU.out
      have e2 := cell_up d2 HU.out
      generalize f i = z at e1 e2
      clear d1 d2
      have hiz : (i : Int) < (n : Int) := by omega
      have hiz0 : (0 : Int) ≤ (i : Int) := by omega
      go_wp2_with fail
      go_quiet (fail)
      all_goals (try go_wp2)
      go_roundw
      case rel => exact ⟨i + 1, by omega, by go_num, HU.out.trans (Up.drewN _ _)⟩
      case measure => simp [intOf]; omega
    · obtain rfl : i = n := by omega
      go_wp2
      go_ret
      exact ⟨rfl, HU⟩
/-- A row that came in, laid behind a row of one's own. -/
theorem wpList_append_in {w : World} {ops : Array Oper} {rest : List Oper} {op : Oper} {a : Act} {Q : Exit → Act → World → Prop} (hgd : op.guard = none) (s x : Operand)
    (ho : op.op = .call { callee := .builtin .append, args := #[s, x], argTypes := #[27, 27] }) (base : Nat) (v : Value) (hs : a.eval s = v) (hown : w.ownsRow base 2 1 v 0 []) (p : Option Addr) (cap : Nat) (o : List Int) (hx : a.eval x = .slice p o.length cap)
    (hR : IR w p o.length (fun i => o[i]!)) (hp : p = none → o.length = 0 ∧ cap = 0) (hlen : o.length ≤ 1048576) (hbase : base ≤ w.heap.size)
    (h : ∀ v' w', w'.ownsRow base 2 1 v' o.length (o.map (Value.int .i64)) → w.grownBy w' v.ownBlock → wpList Try.prog ops Q rest (a.put op.dst v') w') : wpList Try.prog ops Q (op :: rest) a w := by
  obtain ⟨i0, hi, hz0, hz1, hz2⟩ := info_parts info2
  cases p with
  | none =>
    obtain ⟨h0, rfl⟩ := hp rfl
    obtain rfl := List.eq_nil_of_length_eq_zero h0
    refine wpList_plain hgd fun K hK => ?_
    have hr := run_append_owned_none (P := Try.prog) w base 27 op.type 2 i0 1 Try.underlying27 hi v 0 [] hown
    unfold Oper.wp execOp
    simp only [ho, resolve, invoke, builtin, Sem.run_bind, Sem.run_pure, Result.andThen_ok, List.map_toArray, List.map_cons, List.map_nil, hs, hx, List.length_nil, hr]
    exact hK _ _ (h v w hown ⟨rfl, rfl, rfl, Nat.le_refl _, fun _ _ _ => rfl⟩)
  | some ad =>
    refine wpList_append_own w hgd s x 27 ho base 2 i0 (.int .i64 0) 1 8 Try.underlying27 hi hz0 hz1 hz2 rfl (by decide) v 0 [] hs hown ad o.length cap (o.map (Value.int .i64)) hx (by simp) ?_ ?_ (by unfold maxLen; omega) (by omega) hbase ?_
    · intro j u hj
      rw [List.getElem?_map, Option.map_eq_some_iff] at hj
      obtain ⟨z, hz, rfl⟩ := hj
      obtain ⟨hl, hz⟩ := List.getElem?_eq_some_iff.1 hz
      obtain ⟨blk, off, hb, hcell⟩ := hR j hl
      cases hb
      simp only at hcell
      rw [getElem!_pos o j hl, hz] at hcell
      rw [← hcell]
      unfold Addr.add
      split
      · rename_i h0; rw [h0]; rfl
      · rfl
    · intro u hu
      obtain ⟨z, _, rfl⟩ := List.mem_map.1 hu
      rfl
    · intro v' w' h1 h2 _
      rw [Nat.zero_add, List.nil_append] at h1
      exact h v' w' h1 h2
/-- Numbers in memory of their own, with marks behind them. -/
structure Lent (w0 w : World) (gr cr : Nat) (o : List Int) : Prop where
  row : w.ownsRow w0.heap.size 2 1 (.slice (some ⟨gr, 0, none⟩) (o.length + 2) cr) (o.length + 2) ((o ++ [77, 78]).map (Value.int .i64))
  up : Up w0 w
  le : o.length + 2 ≤ cr
theorem Lent.upon {w0 w w' : World} {gr cr : Nat} {o : List Int} (h : Lent w0 w gr cr o) (hu : Up w w') : Lent w0 w' gr cr o := ⟨owns_up h.row hu, h.up.trans hu, h.le⟩
theorem Lent.cell {w0 w : World} {gr cr : Nat} {o : List Int} (h : Lent w0 w gr cr o) {i : Nat} (hi : i < o.length + 2) : w.cell? ⟨gr, i, none⟩ = some (.int .i64 (o ++ [77, 78])[i]!) := by
  have hl : i < (o ++ [77, 78]).length := by simpa using hi
  rw [World.ownsRow.cellAt h.row i (by omega), List.getElem?_map, List.getElem?_eq_getElem hl, getElem!_pos _ i hl]
  rfl
theorem Lent.low {w0 w : World} {gr cr : Nat} {o : List Int} (h : Lent w0 w gr cr o) {i : Nat} (hi : i < o.length) : w.cell? ⟨gr, i, none⟩ = some (.int .i64 o[i]!) := by
  rw [h.cell (by omega), getElem!_pos _ i (by simp; omega), List.getElem_append_left hi, getElem!_pos o i hi]
theorem Lent.marks {w0 w : World} {gr cr : Nat} {o : List Int} (h : Lent w0 w gr cr o) : w.cell? ⟨gr, o.length, none⟩ = some (.int .i64 77) ∧ w.cell? ⟨gr, o.length + 1, none⟩ = some (.int .i64 78) := by
  constructor
  · rw [h.cell (by omega), getElem!_pos _ _ (by simp), List.getElem_append_right (by omega)]
    simp
  · rw [h.cell (by omega), getElem!_pos _ _ (by simp), List.getElem_append_right (by omega)]
    simp
theorem Lent.ir {w0 w : World} {gr cr : Nat} {o : List Int} (h : Lent w0 w gr cr o) : IR w (some ⟨gr, 0, none⟩) o.length (fun i => o[i]!) :=
  fun i hi => ⟨gr, 0, rfl, by rw [Nat.zero_add]; exact h.low hi⟩
theorem lent_of {w w1 w2 wa : World} {v1 v2 : Value} {o : List Int} (h1 : w1.ownsRow w.heap.size 2 1 v1 o.length (o.map (Value.int .i64))) (u1 : Up w w1) (ua : Up w1 wa) (h2 : w2.ownsRow w.heap.size 2 1 v2 (o.length + 2) (o.map (Value.int .i64) ++ [.int .i64 77, .int .i64 78])) (hg : wa.grownBy w2 v1.ownBlock) : ∃ gr cr, v2 = .slice (some ⟨gr, 0, none⟩) (o.length + 2) cr ∧ Lent w w2 gr cr o := by
  have hb := Below.grown (u1.trans ua) hg (Nat.le_trans u1.size ua.size) (fun j hj => (h1.lt j hj).1)
  rcases h2.2 with ⟨_, h0⟩ | ⟨g, cap, cur, rfl, _, _, hc, _⟩
  · omega
  · refine ⟨g, cap, rfl, ?_, hb, hc⟩
    rw [List.map_append]
    exact h2
theorem own_empty2 (w : World) : (w.alloc (.cells #[] 2)).ownsRow w.heap.size 2 1 (.slice (some ⟨w.heap.size, 0, none⟩) 0 0) 0 [] :=
  ⟨by simp, .inr ⟨w.heap.size, 0, #[], rfl, Nat.le_refl _, heap_alloc_last _ _, Nat.le_refl _, Nat.zero_le _, rfl, rfl⟩⟩
theorem two_new (w : World) (x y : Int) (t : TypeId) : ∀ (j : Nat) (u : Value), [Value.int .i64 x, .int .i64 y][j]? = some u → (w.alloc (.cells #[.int .i64 x, .int .i64 y] t)).cell? ((⟨w.heap.size, 0, none⟩ : Addr).add j) = some u := by
  intro j u hj
  match j, hj with
  | 0, hj => simp at hj; subst hj; exact World.cell?_alloc_at _ _ _ _ rfl
  | 1, hj => simp at hj; subst hj; exact World.cell?_alloc_at _ _ _ _ rfl
theorem two_one (x y : Int) : ∀ u ∈ [Value.int .i64 x, .int .i64 y], u.oneCell' = true := by
  intro u hu; simp at hu; rcases hu with rfl | rfl <;> rfl
set_option maxHeartbeats 1000000 in
theorem t12 (o : List Int) (p : Option Addr) (cap : Nat) (w : World) (hR : IR w p o.length (fun i => o[i]!)) (hp : p = none → o.length = 0 ∧ cap = 0) (hK : o.length ≤ 1048576) : Calls Try.prog 12 #[.slice p o.length cap] w fun e w' => ∃ gr cr, e = .returned (.slice (some ⟨gr, 0, none⟩) o.length cr) ∧ Hid (Lent w w' gr cr o) := by
  obtain ⟨i0, hi, hz0, hz1, hz2⟩ := info_parts info2
  have HR : Hid (IR w p o.length (fun i => o[i]!)) := hR
  have HP : Hid (p = none → o.length = 0 ∧ cap = 0) := hp
  clear hR hp
  have hown : (w.alloc (.cells #[] 2)).ownsRow w.heap.size 2 1 (.slice (some ⟨w.heap.size, 0, none⟩) 0 0) 0 [] := own_empty2 w
  go_enter Try.func12, Try.ntmps12
  go_wp2_with (first
    | (at_builtin; refine wpList_append_in rfl _ _ rfl w.heap.size (.slice (some ⟨w.heap.size, 0, none⟩) 0 0) rfl hown p cap o rfl (HR.out.up (Up.alloc _ _)) HP.out hK (by simp) ?_; intro v1 w1 h1 hg1; have U1 : Hid (Up w w1) := Below.grown ((Below.refl _ _).alloc (Nat.le_refl _) _) hg1 (by simp) (fun k hk => by simp [Value.ownBlock] at hk; omega); have sz1 : w.heap.size ≤ w1.heap.size := U1.out.size; clear hg1 hown)
    | (at_builtin; refine wpList_append_own _ rfl _ _ 27 rfl w.heap.size 2 i0 (.int .i64 0) 1 8 Try.underlying27 hi hz0 hz1 hz2 rfl (by decide) _ _ _ rfl (h1.alloc _) ⟨w1.heap.size, 0, none⟩ 2 2 [.int .i64 77, .int .i64 78] rfl rfl (two_new _ _ _ _) (two_one _ _) (by unfold maxLen; omega) (by omega) (by simp; omega) ?_))
  intro v2 w2 h2 hg2 _
  obtain ⟨gr, cr, hv2, hL⟩ := lent_of h1 U1.out (Up.alloc _ _) h2 hg2
  subst hv2
  have hcr := hL.le
  have L2 : Hid (Lent w w2 gr cr o) := hL
  clear h1 h2 hg2 hL
  go_wp2
  go_ret
  exact ⟨gr, cr, rfl, L2⟩
set_option maxHeartbeats 1000000 in
theorem t15 (o : List Int) (p : Option Addr) (cap gr cr : Nat) (w0 w : World) (hR : IR w p o.length (fun i => o[i]!)) (hL : Lent w0 w gr cr o) (hK : o.length ≤ 1048576) : Calls Try.prog 15 #[.slice (some ⟨gr, 0, none⟩) o.length cr, .slice p o.length cap] w (TU w) := by
  have HR : Hid (IR w p o.length (fun i => o[i]!)) := hR
  have HL : Hid (Lent w0 w gr cr o) := hL
  have hcr := hL.le
  clear hR hL
  go_enter Try.func15, Try.ntmps15
  go_wp2_with (go_at_call 19; (with_reducible refine (t19 (some ⟨gr, 0, none⟩) p o.length cr cap (fun i => o[i]!) _ (by omega) HL.out.ir HR.out).mono ?_); rintro e w1 ⟨rfl, HU⟩; obtain ⟨m1, m2⟩ := (HL.out.upon HU.out).marks)
  go_ret
  exact ⟨rfl, HU⟩
set_option maxHeartbeats 1000000 in
theorem t4 (r m : List Int) (p q : Option Addr) (c1 c2 : Nat) (w : World) (hr : IR w p r.length (fun i => r[i]!)) (hp : p = none → r.length = 0 ∧ c1 = 0) (hm : IR w q m.length (fun i => m[i]!)) (hq : q = none → m.length = 0 ∧ c2 = 0) : Calls Try.prog 4 #[.slice p r.length c1, .slice q m.length c2] w (TU w) := by
  by_cases hb : r.length ≤ 1048576 ∧ m.length ≤ 1048576
  · obtain ⟨hb1, hb2⟩ := hb
    have HR : Hid (IR w p r.length (fun i => r[i]!)) := hr
    have HP : Hid (p = none → r.length = 0 ∧ c1 = 0) := hp
    have HM : Hid (IR w q m.length (fun i => m[i]!)) := hm
    have HQ : Hid (q = none → m.length = 0 ∧ c2 = 0) := hq
    have H13 : Hid (∀ w gp cp gq cq, IR w gp r.length (fun i => r[i]!) → IR w gq m.length (fun i => m[i]!) → _) := fun w gp cp gq cq h1 h2 => t13 gp gq r.length m.length cp cq (fun i => r[i]!) (fun i => m[i]!) w h1 h2
    have H14 : Hid (∀ w gp cp gq cq, IR w gp r.length (fun i => r[i]!) → IR w gq m.length (fun i => m[i]!) → _) := fun w gp cp gq cq h1 h2 => t14 gp gq r.length m.length cp cq (fun i => r[i]!) (fun i => m[i]!) w h1 h2
    generalize joinT (fun i => r[i]!) (fun i => m[i]!) r.length m.length = S at *
    clear hr hp hm hq
    go_enter Try.func4, Try.ntmps4
    go_wp2_with (first
      | (go_at_call 12; (with_reducible refine (t12 r p c1 w HR.out HP.out hb1).mono ?_); rintro e w1 ⟨ga, ca, rfl, L1⟩)
      | (go_at_call 12; (with_reducible refine (t12 m q c2 w1 (HM.out.up L1.out.up) HQ.out hb2).mono ?_); rintro e w2 ⟨gb, cb, rfl, L2⟩)
      | (go_at_call 13; (with_reducible refine (H13.out w2 (some ⟨ga, 0, none⟩) ca (some ⟨gb, 0, none⟩) cb (L1.out.upon L2.out.up).ir L2.out.ir).mono ?_); rintro e w3 ⟨rfl, HU3⟩)
      | (go_at_call 14; (with_reducible refine (H14.out w3 p c1 q c2 (HR.out.up ((L1.out.up.trans L2.out.up).trans HU3.out)) (HM.out.up ((L1.out.up.trans L2.out.up).trans HU3.out))).mono ?_); rintro e w4 ⟨rfl, HU4⟩)
      | (go_at_call 15; (with_reducible refine (t15 r p c1 ga ca w w4 (HR.out.up (((L1.out.up.trans L2.out.up).trans HU3.out).trans HU4.out)) (((L1.out.upon L2.out.up).upon HU3.out).upon HU4.out) hb1).mono ?_); rintro e w5 ⟨rfl, HU5⟩)
      | (go_at_call 15; (with_reducible refine (t15 m q c2 gb cb w1 w5 (HM.out.up ((((L1.out.up.trans L2.out.up).trans HU3.out).trans HU4.out).trans HU5.out)) (((L2.out.upon HU3.out).upon HU4.out).upon HU5.out) hb2).mono ?_); rintro e w6 ⟨rfl, HU6⟩)
      | (go_at_call 11; (with_reducible refine (t11 _).mono ?_); rintro e w7 ⟨rfl, HU7⟩))
    go_ret
    exact ⟨rfl, (((((L1.out.up.trans L2.out.up).trans HU3.out).trans HU4.out).trans HU5.out).trans HU6.out).trans HU7.out⟩
  · clear hr hp hm hq
    by_cases h1 : 1048576 < r.length
    · have h1z : (1048576 : Int) < (r.length : Int) := by omega
      go_enter Try.func4, Try.ntmps4
      go_wp2_with (go_at_call 11; (with_reducible refine (t11 _).mono ?_); rintro e w7 ⟨rfl, HU7⟩)
      go_ret
      exact ⟨rfl, HU7⟩
    · have h1z : (r.length : Int) ≤ 1048576 := by omega
      have h2z : (1048576 : Int) < (m.length : Int) := by omega
      go_enter Try.func4, Try.ntmps4
      go_wp2_with (go_at_call 11; (with_reducible refine (t11 _).mono ?_); rintro e w7 ⟨rfl, HU7⟩)
      go_ret
      exact ⟨rfl, HU7⟩
end Go.Proofs.Ytpahjenfkgcdlaa

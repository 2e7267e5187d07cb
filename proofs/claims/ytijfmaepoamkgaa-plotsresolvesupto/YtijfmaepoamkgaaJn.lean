/- Lists alike; numbers lent and kept; FoldJoins. -/
import Derived.Test.YtijfmaepoamkgaaJd
namespace Go.Proofs.Ytijfmaepoamkgaa.Fo
open Go.ChangeShapes Go.WideShapes Go.ChangeAt Go.RowKit

set_option maxHeartbeats 1000000 in
theorem t16 (p q : Option Addr) (n c1 c2 : Nat) (f : Nat → Int) (w : World) (hn : n < 4611686018427387904) (h1 : IR w p n f) (h2 : IR w q n f) : Calls Try.prog 16 #[.slice p n c1, .slice q n c2] w fun e w' => e = .returned (.bool true) ∧ Hid (Up w w') := by
  have H1 : Hid (IR w p n f) := h1
  have H2 : Hid (IR w q n f) := h2
  clear h1 h2
  have hnz : (n : Int) < 4611686018427387904 := by omega
  go_enter Try.func16, Try.ntmps16
  go_wp2
  go_loopw [5] (fun vi wr => ∃ i : Nat, i ≤ n ∧ vi = .int .i64 i ∧ Hid (Up w wr)) (fun vi _ => n - (intOf vi).toNat)
  case atStart => exact ⟨0, by omega, rfl, Up.refl _⟩
  case round =>
    obtain ⟨i, hi, rfl, HU⟩ := hrel
    by_cases hlt : i < n
    · obtain ⟨b1, o1, rfl, d1⟩ := H1.out i hlt
      obtain ⟨b2, o2, rfl, d2⟩ := H2.out i hlt
      have e1 := cell_up d1 HU.out
      have e2 := cell_up d2 HU.out
      generalize f i = z at e1 e2
      clear d1 d2
      have hiz : (i : Int) < (n : Int) := by omega
      have hiz0 : (0 : Int) ≤ (i : Int) := by omega
      go_wp2_with fail
      go_quiet (fail)
      all_goals (try go_wp2)
      go_roundw
      case rel => exact ⟨i + 1, by omega, by go_num, HU.out.trans (Up.drewN _ _)⟩
      case measure => simp [intOf]; omega
    · obtain rfl : i = n := by omega
      go_wp2
      go_ret
      exact ⟨rfl, HU⟩
/-- A row that came in, laid behind a row of one's own. -/
theorem wpList_append_in {w : World} {ops : Array Oper} {rest : List Oper} {op : Oper} {a : Act} {Q : Exit → Act → World → Prop} (hgd : op.guard = none) (s x : Operand)
    (ho : op.op = .call { callee := .builtin .append, args := #[s, x], argTypes := #[39, 39] }) (base : Nat) (v : Value) (hs : a.eval s = v) (hown : w.ownsRow base 2 1 v 0 []) (p : Option Addr) (cap : Nat) (o : List Int) (hx : a.eval x = .slice p o.length cap)
    (hR : IR w p o.length (fun i => o[i]!)) (hp : p = none → o.length = 0 ∧ cap = 0) (hlen : o.length ≤ 1048576) (hbase : base ≤ w.heap.size)
    (h : ∀ v' w', w'.ownsRow base 2 1 v' o.length (o.map (Value.int .i64)) → w.grownBy w' v.ownBlock → wpList Try.prog ops Q rest (a.put op.dst v') w') : wpList Try.prog ops Q (op :: rest) a w := by
  obtain ⟨i0, hi, hz0, hz1, hz2⟩ := info_parts info2
  cases p with
  | none =>
    obtain ⟨h0, rfl⟩ := hp rfl
    obtain rfl := List.eq_nil_of_length_eq_zero h0
    refine wpList_plain hgd fun K hK => ?_
    have hr := run_append_owned_none (P := Try.prog) w base 39 op.type 2 i0 1 Try.underlying39 hi v 0 [] hown
    unfold Oper.wp execOp
    simp only [ho, resolve, invoke, builtin, Sem.run_bind, Sem.run_pure, Result.andThen_ok, List.map_toArray, List.map_cons, List.map_nil, hs, hx, List.length_nil, hr]
    exact hK _ _ (h v w hown ⟨rfl, rfl, rfl, Nat.le_refl _, fun _ _ _ => rfl⟩)
  | some ad =>
    refine wpList_append_own w hgd s x 39 ho base 2 i0 (.int .i64 0) 1 8 Try.underlying39 hi hz0 hz1 hz2 rfl (by decide) v 0 [] hs hown ad o.length cap (o.map (Value.int .i64)) hx (by simp) ?_ ?_ (by unfold maxLen; omega) (by omega) hbase ?_
    · intro j u hj
      rw [List.getElem?_map, Option.map_eq_some_iff] at hj
      obtain ⟨z, hz, rfl⟩ := hj
      obtain ⟨hl, hz⟩ := List.getElem?_eq_some_iff.1 hz
      obtain ⟨blk, off, hb, hcell⟩ := hR j hl
      cases hb
      simp only at hcell
      rw [getElem!_pos o j hl, hz] at hcell
      rw [← hcell]
      unfold Addr.add
      split
      · rename_i h0; rw [h0]; rfl
      · rfl
    · intro u hu
      obtain ⟨z, _, rfl⟩ := List.mem_map.1 hu
      rfl
    · intro v' w' h1 h2 _
      rw [Nat.zero_add, List.nil_append] at h1
      exact h v' w' h1 h2
/-- Numbers in memory of their own, with marks behind them. -/
structure Lent (w0 w : World) (gr cr : Nat) (o : List Int) : Prop where
  row : w.ownsRow w0.heap.size 2 1 (.slice (some ⟨gr, 0, none⟩) (o.length + 2) cr) (o.length + 2) ((o ++ [77, 78]).map (Value.int .i64))
  up : Up w0 w
  le : o.length + 2 ≤ cr
theorem Lent.upon {w0 w w' : World} {gr cr : Nat} {o : List Int} (h : Lent w0 w gr cr o) (hu : Up w w') : Lent w0 w' gr cr o := ⟨owns_up h.row hu, h.up.trans hu, h.le⟩
theorem Lent.cell {w0 w : World} {gr cr : Nat} {o : List Int} (h : Lent w0 w gr cr o) {i : Nat} (hi : i < o.length + 2) : w.cell? ⟨gr, i, none⟩ = some (.int .i64 (o ++ [77, 78])[i]!) := by
  have hl : i < (o ++ [77, 78]).length := by simpa using hi
  rw [World.ownsRow.cellAt h.row i (by omega), List.getElem?_map, List.getElem?_eq_getElem hl, getElem!_pos _ i hl]
  rfl
theorem Lent.low {w0 w : World} {gr cr : Nat} {o : List Int} (h : Lent w0 w gr cr o) {i : Nat} (hi : i < o.length) : w.cell? ⟨gr, i, none⟩ = some (.int .i64 o[i]!) := by
  rw [h.cell (by omega), getElem!_pos _ i (by simp; omega), List.getElem_append_left hi, getElem!_pos o i hi]
theorem Lent.marks {w0 w : World} {gr cr : Nat} {o : List Int} (h : Lent w0 w gr cr o) : w.cell? ⟨gr, o.length, none⟩ = some (.int .i64 77) ∧ w.cell? ⟨gr, o.length + 1, none⟩ = some (.int .i64 78) := by
  constructor
  · rw [h.cell (by omega), getElem!_pos _ _ (by simp), List.getElem_append_right (by omega)]
    simp
  · rw [h.cell (by omega), getElem!_pos _ _ (by simp), List.getElem_append_right (by omega)]
    simp
theorem Lent.ir {w0 w : World} {gr cr : Nat} {o : List Int} (h : Lent w0 w gr cr o) : IR w (some ⟨gr, 0, none⟩) o.length (fun i => o[i]!) :=
  fun i hi => ⟨gr, 0, rfl, by rw [Nat.zero_add]; exact h.low hi⟩
theorem lent_of {w w1 w2 wa : World} {v1 v2 : Value} {o : List Int} (h1 : w1.ownsRow w.heap.size 2 1 v1 o.length (o.map (Value.int .i64))) (u1 : Up w w1) (ua : Up w1 wa) (h2 : w2.ownsRow w.heap.size 2 1 v2 (o.length + 2) (o.map (Value.int .i64) ++ [.int .i64 77, .int .i64 78])) (hg : wa.grownBy w2 v1.ownBlock) : ∃ gr cr, v2 = .slice (some ⟨gr, 0, none⟩) (o.length + 2) cr ∧ Lent w w2 gr cr o := by
  have hb := Below.grown (u1.trans ua) hg (Nat.le_trans u1.size ua.size) (fun j hj => (h1.lt j hj).1)
  rcases h2.2 with ⟨_, h0⟩ | ⟨g, cap, cur, rfl, _, _, hc, _⟩
  · omega
  · refine ⟨g, cap, rfl, ?_, hb, hc⟩
    rw [List.map_append]
    exact h2
theorem own_empty2 (w : World) : (w.alloc (.cells #[] 2)).ownsRow w.heap.size 2 1 (.slice (some ⟨w.heap.size, 0, none⟩) 0 0) 0 [] :=
  ⟨by simp, .inr ⟨w.heap.size, 0, #[], rfl, Nat.le_refl _, heap_alloc_last _ _, Nat.le_refl _, Nat.zero_le _, rfl, rfl⟩⟩
theorem two_new (w : World) (x y : Int) (t : TypeId) : ∀ (j : Nat) (u : Value), [Value.int .i64 x, .int .i64 y][j]? = some u → (w.alloc (.cells #[.int .i64 x, .int .i64 y] t)).cell? ((⟨w.heap.size, 0, none⟩ : Addr).add j) = some u := by
  intro j u hj
  match j, hj with
  | 0, hj => simp at hj; subst hj; exact World.cell?_alloc_at _ _ _ _ rfl
  | 1, hj => simp at hj; subst hj; exact World.cell?_alloc_at _ _ _ _ rfl
theorem two_one (x y : Int) : ∀ u ∈ [Value.int .i64 x, .int .i64 y], u.oneCell' = true := by
  intro u hu; simp at hu; rcases hu with rfl | rfl <;> rfl
end Go.Proofs.Ytijfmaepoamkgaa.Fo
/- The reference: how far, what is refused first, Near. -/
namespace Go.Proofs.Ytijfmaepoamkgaa.Fo
open Go.ChangeShapes Go.WideShapes Go.ChangeAt Go.RowKit

theorem t33 (x r m : Int) (hm : 1 ≤ m) (hm2 : m ≤ 1099511627776) (w : World) : Calls Try.prog 33 #[.int .i64 x, .int .i64 r, .int .i64 m] w fun e w' => e = .returned (.int .i64 (far x r m)) ∧ w' = w := by
  have x0 := Int.emod_nonneg x (show m ≠ 0 by omega)
  have x1 := Int.emod_lt_of_pos x (show 0 < m by omega)
  have r0 := Int.emod_nonneg r (show m ≠ 0 by omega)
  have r1 := Int.emod_lt_of_pos r (show 0 < m by omega)
  have d0 := Int.emod_nonneg (x - r) (show m ≠ 0 by omega)
  have d1 := Int.emod_lt_of_pos (x - r) (show 0 < m by omega)
  have hs := far_sub (x := x) (r := r) hm
  obtain ⟨f1, f2⟩ := far_min' (x := x) (r := r) hm
  obtain ⟨xm, hx⟩ : ∃ t, x % m = t := ⟨_, rfl⟩
  obtain ⟨rm, hr⟩ : ∃ t, r % m = t := ⟨_, rfl⟩
  obtain ⟨d, hd⟩ : ∃ t, (x - r) % m = t := ⟨_, rfl⟩
  rw [hx, hr, hd] at hs
  rw [hx] at x0 x1
  rw [hr] at r0 r1
  rw [hd] at d0 d1 f1 f2
  have HF : Hid ((m - d < d → m - d = far x r m) ∧ (¬ m - d < d → d = far x r m)) := ⟨f1, f2⟩
  clear f1 f2 hd
  go_enter Try.func33, Try.ntmps33
  go_wp2_with (first
    | (go_at_call 54; (with_reducible refine (t54 x m (by omega) _).mono ?_); rintro e w1 ⟨rfl, rfl⟩; rw [hx])
    | (go_at_call 54; (with_reducible refine (t54 r m (by omega) _).mono ?_); rintro e w1 ⟨rfl, rfl⟩; rw [hr])
    | (go_at_call 54; (with_reducible refine (t54 (xm - rm) m (by omega) _).mono ?_); rintro e w1 ⟨rfl, rfl⟩; rw [hs]))
  all_goals go_ret
  · exact ⟨by rw [← HF.out.1 (by assumption)]; rfl, rfl⟩
  · exact ⟨by rw [← HF.out.2 (by assumption)]; rfl, rfl⟩
theorem t33q {x r m v : Int} {w : World} (hm : 1 ≤ m) (hm2 : m ≤ 1099511627776) (h : far x r m = v) (n : Nat) : Calls Try.prog 33 #[.int .i64 x, .int .i64 r, .int .i64 m] (w.drewN n) fun e w' => e = .returned (.int .i64 v) ∧ ∃ k, w' = (w.drewN n).drewN k :=
  (t33 x r m hm hm2 _).mono fun e w' h' => ⟨by rw [h'.1, h], 0, h'.2⟩
/-- What is refused first. -/
def badC (m : Nat → Int) (n1 n2 : Nat) : Int := if 8 < min n1 n2 then 3 else ringsE m (min n1 n2)
theorem ringsE_in (m : Nat → Int) : ∀ n, ringsE m n = 0 ∨ ringsE m n = 2
  | 0 => Or.inl rfl
  | n + 1 => by
    have := ringsE_in m n
    unfold ringsE
    split
    · exact this
    · split
      · exact Or.inr rfl
      · exact Or.inl rfl
theorem ringsC_bad (m : Nat → Int) (n1 n2 : Nat) (bad : Bool) (most : Int) : ringsC m n1 n2 bad most = if badC m n1 n2 ≠ 0 then badC m n1 n2 else if bad then 2 else if 4194304 < most then 3 else 0 := by
  unfold ringsC badC
  by_cases h : 8 < min n1 n2
  · rw [if_pos h, if_pos h, if_pos (by decide)]
  · rw [if_neg h, if_neg h]
theorem worst_mono (r m : Nat → Int) (x : Int) {i : Nat} : ∀ n, worst r m x i ≤ worst r m x (i + n)
  | 0 => Int.le_refl _
  | n + 1 => by
    have := worst_mono r m x (i := i) n
    rw [← Nat.add_assoc, worst]
    omega
end Go.Proofs.Ytijfmaepoamkgaa.Fo

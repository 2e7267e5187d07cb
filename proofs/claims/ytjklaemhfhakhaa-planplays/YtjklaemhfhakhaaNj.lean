/- A plan of the document's that is laid task by task. -/
import Derived.Test.YtjklaemhfhakhaaNh
namespace Go.Proofs.Ytjklaemhfhakhaa
open Go.ChangeShapes Go.WideShapes Go.ChangeAt Go.RowKit

theorem info76 : (Try.prog.info? 76).map (fun i => (i.zero, i.size, i.bytes)) = some (some (.agg #[.int .i64 0, .int .i64 0, .int .i64 0, .int .i64 0, .slice none 0 0, .int .i64 0]), 6, 64) := by kernel_rfl
def oL (x : On) (v : Value) : List Value := [.int .i64 x.e, .int .i64 x.l, .int .i64 x.r, .int .i64 x.nx, v, .int .i64 x.lf]
def oF (X : Nat → On) (V : Nat → Value) : Nat → List Value
  | 0 => []
  | k + 1 => oF X V k ++ oL (X k) (V k)
theorem oF_len (X : Nat → On) (V : Nat → Value) : ∀ k, (oF X V k).length = k * 6
  | 0 => rfl
  | k + 1 => by
    rw [oF, List.length_append, oF_len X V k]
    show k * 6 + 6 = _
    omega
theorem oF_at {X : Nat → On} {V : Nat → Value} : ∀ {k i j : Nat}, i < k → j < 6 → (oF X V k)[i * 6 + j]? = (oL (X i) (V i))[j]?
  | 0, _, _, h, _ => by omega
  | k + 1, i, j, h, hj => by
    rw [oF]
    rcases Nat.lt_succ_iff_lt_or_eq.1 h with q | rfl
    · rw [List.getElem?_append_left (by rw [oF_len]; omega)]
      exact oF_at q hj
    · rw [List.getElem?_append_right (by rw [oF_len]; omega), oF_len]
      rw [show i * 6 + j - i * 6 = j by omega]
theorem oF_congr {X Y : Nat → On} {V U : Nat → Value} : ∀ k, (∀ i, i < k → X i = Y i ∧ V i = U i) → oF X V k = oF Y U k
  | 0, _ => rfl
  | k + 1, h => by
    obtain ⟨h1, h2⟩ := h k (by omega)
    rw [oF, oF, oF_congr k (fun i hi => h i (by omega)), h1, h2]
/-- Tasks laid so far. -/
structure BO (w0 w : World) (bq k : Nat) (a : Int) (X : Nat → On) (V : Nat → Value) (v : Value) : Prop where
  up : Up w0 w
  q0 : w.cell? ⟨bq, 0, none⟩ = some v
  q1 : w.cell? ⟨bq, 1, none⟩ = some (.int .i64 a)
  fq : ∀ i, w.frozen? ⟨bq, i, none⟩ = false
  lo : w0.heap.size ≤ bq
  row : w.ownsRow w0.heap.size 76 6 v k (oF X V k)
  ne : ∀ g, v.ownBlock = some g → g ≠ bq
  wt : ∀ i, i < k → JO w (V i) (X i).w
  vb : ∀ i, i < k → ∀ g, (V i).ownBlock = some g → w0.heap.size ≤ g ∧ g ≠ bq ∧ v.ownBlock ≠ some g
  vv : ∀ i j, i < k → j < k → i ≠ j → ∀ g, (V i).ownBlock = some g → (V j).ownBlock ≠ some g
/-- All are laid: it is a plan. -/
theorem BO.rw {w0 w : World} {bq k : Nat} {a : Int} {X : Nat → On} {V : Nat → Value} {v : Value} (h : BO w0 w bq k a X V v) : ∃ L : RL, L.bp = bq ∧ L.Ok k ∧ RW w L k a X ∧ ∀ b, L.Own k b → w0.heap.size ≤ b := by
  have hbq : bq < w.heap.size := World.block_lt_of_cell? w _ h.q0
  obtain ⟨p, cap, hv, hp⟩ := own_form h.row
  have hcap : k ≤ cap := by
    rcases h.row.2 with ⟨e, h0⟩ | ⟨g, c, cur, e, _, _, h3, _⟩
    · omega
    · rw [hv] at e
      simp only [Value.slice.injEq] at e
      omega
  rcases Nat.eq_zero_or_pos k with h0 | h0
  · subst h0
    refine ⟨⟨bq, 0, cap, p, V⟩, rfl, ⟨fun q => by omega, fun i hi => by omega, fun i j hi => by omega⟩, ⟨by rw [← hv]; exact h.q0, h.q1, fun q => by omega, fun i hi => by omega, fun i hi => by omega, Nat.zero_le _, h.fq, fun q => by omega, hbq⟩, fun b hb => ?_⟩
    rcases hb with rfl | ⟨q, _⟩ | ⟨i, hi, _⟩
    · exact h.lo
    · omega
    · omega
  · obtain ⟨g, rfl, hg1, hg2⟩ := hp h0
    subst hv
    have hown : (Value.slice (some ⟨g, 0, none⟩) k cap).ownBlock = some g := by simp [Value.ownBlock]
    have hc : ∀ i j u, i < k → j < 6 → (oL (X i) (V i))[j]? = some u → w.cell? ⟨g, i * 6 + j, none⟩ = some u := fun i j u hi hj hu => by
      rw [World.ownsRow.cellAt h.row (i * 6 + j) (by omega), oF_at hi hj]
      exact hu
    refine ⟨⟨bq, g, cap, some ⟨g, 0, none⟩, V⟩, rfl, ⟨fun _ e => h.ne g hown e.symm, fun i hi g' e => ?_, h.vv⟩, ⟨h.q0, h.q1, fun _ => rfl, fun i hi => ⟨hc i 0 _ hi (by omega) rfl, hc i 1 _ hi (by omega) rfl, hc i 2 _ hi (by omega) rfl, hc i 3 _ hi (by omega) rfl, hc i 4 _ hi (by omega) rfl, hc i 5 _ hi (by omega) rfl⟩, h.wt, hcap, h.fq, fun _ j => World.ownsRow.frozenAt h.row j, hbq⟩, fun b hb => ?_⟩
    · obtain ⟨_, k2, k3⟩ := h.vb i hi g' e
      exact ⟨k2, fun q => k3 (by rw [hown, q])⟩
    · rcases hb with rfl | ⟨_, rfl⟩ | ⟨i, hi, e⟩
      · exact h.lo
      · exact hg1
      · exact (h.vb i hi b e).1
/-- One of it more. -/
theorem wpOp_on {ops : Array Oper} {Q : Exit → Act → World → Prop} {K : Act → World → Prop} {a : Act} {w : World} {m : Nat} {o : Oper} (d : Option Tmp) (ho : ops[m]? = some o) (hd : o.dst = d) (hg : o.guard = none) (s x : Operand) (hop : o.op = .call { callee := .builtin .append, args := #[s, x], argTypes := #[71, 71] })
    {base b k c : Nat} {p : Option Addr} {X : Nat → On} {V : Nat → Value} {z : On} {u : Value} (hs : a.eval s = .slice p k c) (hx : a.eval x = .slice (some ⟨b, 0, none⟩) 1 1) (hown : w.ownsRow base 76 6 (.slice p k c) k (oF X V k)) (hz : w.heap[b]? = some (.cells #[.int .i64 z.e, .int .i64 z.l, .int .i64 z.r, .int .i64 z.nx, u, .int .i64 z.lf] 76)) (hu : u.oneCell' = true) (hk : k ≤ 1000) (hb : base ≤ w.heap.size)
    (h : ∀ g c' w', Hid (w'.ownsRow base 76 6 (.slice (some ⟨g, 0, none⟩) (k + 1) c') (k + 1) (oF X V k ++ oL z u)) → Hid (w.grownBy w' (Value.slice p k c).ownBlock) → Hid ((Value.slice p k c).ownBlock = some g ∨ g = w.heap.size) → K (a.put d (.slice (some ⟨g, 0, none⟩) (k + 1) c')) w') : wpOp Try.prog ops Q m K a w := by
  subst hd
  obtain ⟨i0, hi, hz0, hz1, hz2⟩ := info_parts info76
  unfold wpOp
  have hw : Region.wanted o (yielded ops a.tmps) = true := by simp [Region.wanted, hg]
  simp only [ho, hw, if_true]
  left
  refine wp_append_lies w s x 71 hop base 76 i0 (.agg #[.int .i64 0, .int .i64 0, .int .i64 0, .int .i64 0, .slice none 0 0, .int .i64 0]) 6 64 Try.underlying71 hi hz0 hz1 hz2 rfl (by decide) (.slice p k c) k (oF X V k) hs hown ⟨b, 0, none⟩ 1 1 (oL z u) hx rfl (fun j y hj => ?_) (fun y hy => ?_) (by omega) (by unfold maxLen; omega) (by omega) hb _ rfl (fun g cap w' k1 k2 k3 _ => h g cap w' k1 k2 k3)
  · rw [addr_add, Nat.zero_add, (row_cell hz j).1]
    have : (oL z u).toArray = #[.int .i64 z.e, .int .i64 z.l, .int .i64 z.r, .int .i64 z.nx, u, .int .i64 z.lf] := rfl
    rw [← this, List.getElem?_toArray]
    exact hj
  · simp only [oL, List.mem_cons, List.not_mem_nil, or_false] at hy
    rcases hy with rfl | rfl | rfl | rfl | rfl | rfl
    all_goals first | rfl | exact hu
/-- What stands behind an append and its store. -/
theorem BO.next {w0 V w5 : World} {bq k : Nat} {a : Int} {X : Nat → On} {U : Nat → Value} {p : Option Addr} {c g c' : Nat} {z : On} {u : Value} (h : BO w0 V bq k a X U (.slice p k c)) (hr : w5.ownsRow w0.heap.size 76 6 (.slice (some ⟨g, 0, none⟩) (k + 1) c') (k + 1) (oF X U k ++ oL z u)) (hg : V.grownBy w5 (Value.slice p k c).ownBlock) (hb : (Value.slice p k c).ownBlock = some g ∨ g = V.heap.size)
    (hu : JO V u z.w) (hub : ∀ g', u.ownBlock = some g' → w0.heap.size ≤ g' ∧ g' ≠ bq ∧ (Value.slice p k c).ownBlock ≠ some g' ∧ ∀ i, i < k → (U i).ownBlock ≠ some g') :
    BO w0 (w5.setCell ⟨bq, 0, none⟩ (.slice (some ⟨g, 0, none⟩) (k + 1) c')) bq (k + 1) a (upd X k z) (upd U k u) (.slice (some ⟨g, 0, none⟩) (k + 1) c') := by
  have hbq : bq < V.heap.size := World.block_lt_of_cell? V _ h.q0
  have hkg : Kp (fun b => some b ≠ (Value.slice p k c).ownBlock) V w5 := Kp.grown hg
  have hks : Kp (fun b => b ≠ bq) w5 (w5.setCell ⟨bq, 0, none⟩ (.slice (some ⟨g, 0, none⟩) (k + 1) c')) := Kp.set _ _ (fun q => q rfl) _
  have hnq : some bq ≠ (Value.slice p k c).ownBlock := fun e => h.ne bq e.symm rfl
  have hgq : g ≠ bq := by
    rcases hb with e | e
    · exact h.ne g e
    · omega
  have hown : (Value.slice (some ⟨g, 0, none⟩) (k + 1) c').ownBlock = some g := by simp [Value.ownBlock]
  have hlt : ∀ {g' : Nat} {y : Value} {E : List Jr}, JO V y E → y.ownBlock = some g' → g' < V.heap.size := fun hj e => (World.ownsRow.lt hj _ e).2
  have hE : oF (upd X k z) (upd U k u) (k + 1) = oF X U k ++ oL z u := by
    rw [oF, upd_at, upd_at, oF_congr k (fun i hi => ⟨upd_ne X z (show i ≠ k by omega), upd_ne U u (show i ≠ k by omega)⟩)]
  have hne2 : ∀ g', g' < V.heap.size → (Value.slice p k c).ownBlock ≠ some g' → (Value.slice (some ⟨g, 0, none⟩) (k + 1) c').ownBlock ≠ some g' := fun g' h1 h2 e => by
    rw [hown] at e
    have e3 : g = g' := Option.some.inj e
    rcases hb with e2 | e2
    · exact h2 (e2.trans (by rw [e3]))
    · omega
  have hJ : ∀ {y : Value} {E : List Jr}, JO V y E → (∀ g', y.ownBlock = some g' → g' ≠ bq ∧ (Value.slice p k c).ownBlock ≠ some g') → JO (w5.setCell ⟨bq, 0, none⟩ (.slice (some ⟨g, 0, none⟩) (k + 1) c')) y E := fun hj hq => (hj.kp hkg (fun r hr e => (hq r hr).2 e.symm)).kp hks (fun r hr => (hq r hr).1)
  have hupw : Up w0 (w5.setCell ⟨bq, 0, none⟩ (.slice (some ⟨g, 0, none⟩) (k + 1) c')) := by
    have h1 : Kp (fun b => b < w0.heap.size) w0 w5 := (Kp.of_up h.up).two hkg (fun b hb' _ e => by
      have := (World.ownsRow.lt h.row b e.symm).1
      omega)
    exact (h1.setCell (fun q => by have := h.lo; omega) _).up (fun b hb' => hb')
  refine ⟨hupw, World.cell?_setCell_same _ _ _ (hkg.cell hnq h.q0), cell_other (hkg.cell hnq h.q1) (Or.inr (by show 1 ≠ 0; omega)), fun i => by rw [World.frozen?_setCell]; exact hkg.frozen (a := ⟨bq, i, none⟩) hnq hbq (h.fq i), h.lo, ?_, fun g' e => ?_, fun i hi => ?_, fun i hi g' e => ?_, fun i j hi hj hij g' e => ?_⟩
  · rw [hE]
    exact owns_kp hr hks (fun r hr' => by
      rw [hown] at hr'
      have : g = r := Option.some.inj hr'
      omega)
  · rw [hown] at e
    have : g = g' := Option.some.inj e
    omega
  · rcases Nat.lt_succ_iff_lt_or_eq.1 hi with q | rfl
    · rw [upd_ne _ _ (by omega), upd_ne _ _ (by omega)]
      exact hJ (h.wt i q) (fun g' e => ⟨(h.vb i q g' e).2.1, (h.vb i q g' e).2.2⟩)
    · rw [upd_at, upd_at]
      exact hJ hu (fun g' e => ⟨(hub g' e).2.1, (hub g' e).2.2.1⟩)
  · rcases Nat.lt_succ_iff_lt_or_eq.1 hi with q | rfl
    · rw [upd_ne _ _ (by omega)] at e
      obtain ⟨k1, k2, k3⟩ := h.vb i q g' e
      exact ⟨k1, k2, hne2 g' (hlt (h.wt i q) e) k3⟩
    · rw [upd_at] at e
      obtain ⟨k1, k2, k3, _⟩ := hub g' e
      exact ⟨k1, k2, hne2 g' (hlt hu e) k3⟩
  · rcases Nat.lt_succ_iff_lt_or_eq.1 hi with q | rfl
    · rw [upd_ne _ _ (by omega)] at e
      rcases Nat.lt_succ_iff_lt_or_eq.1 hj with q2 | rfl
      · rw [upd_ne _ _ (by omega)]
        exact h.vv i j q q2 hij g' e
      · rw [upd_at]
        exact fun e2 => (hub g' e2).2.2.2 i q e
    · rw [upd_at] at e
      rcases Nat.lt_succ_iff_lt_or_eq.1 hj with q2 | rfl
      · rw [upd_ne _ _ (by omega)]
        exact (hub g' e).2.2.2 j q2
      · exact absurd rfl hij
end Go.Proofs.Ytjklaemhfhakhaa
/- New (the document's). -/
namespace Go.Proofs.Ytjklaemhfhakhaa
open Go.ChangeShapes Go.WideShapes Go.ChangeAt Go.RowKit

set_option maxHeartbeats 2000000 in
theorem t26y {e l : Int} (r : Int) (h : MayT e l) (w : World) : Calls Try.prog 26 #[.agg #[.int .i64 e, .int .i64 l, .int .i64 r]] w (VU w (.bool true)) := by
  obtain ⟨h1, h2, h3⟩ := h
  have h4 : 1 ≤ e := by omega
  go_enter Try.func26, Try.ntmps26
  go_wp2
  go_ret
  exact ⟨rfl, Up.alloc _ _⟩
set_option maxHeartbeats 2000000 in
theorem t26n {e l : Int} (r : Int) (h : ¬ MayT e l) (w : World) : Calls Try.prog 26 #[.agg #[.int .i64 e, .int .i64 l, .int .i64 r]] w (VU w (.bool false)) := by
  by_cases a : 1 ≤ e
  · by_cases b : e ≤ 1099511627776
    · by_cases c : 1 ≤ l
      · have d : ¬ l ≤ e := fun d => h ⟨c, d, b⟩
        clear h
        go_enter Try.func26, Try.ntmps26
        go_wp2
        go_ret
        exact ⟨rfl, Up.alloc _ _⟩
      · clear h
        go_enter Try.func26, Try.ntmps26
        go_wp2
        go_ret
        exact ⟨rfl, Up.alloc _ _⟩
    · clear h
      go_enter Try.func26, Try.ntmps26
      go_wp2
      go_ret
      exact ⟨rfl, Up.alloc _ _⟩
  · clear h
    go_enter Try.func26, Try.ntmps26
    go_wp2
    go_ret
    exact ⟨rfl, Up.alloc _ _⟩
def onT (T : Nat → Tk) (i : Nat) : On := ⟨(T i).e, (T i).l, (T i).r, 0, [], 0⟩
def noV (_ : Nat) : Value := .slice none 0 0
theorem upd_self {α : Type} (f : Nat → α) (k : Nat) : upd f k (f k) = f := by
  funext i
  by_cases q : i = k
  · subst q; rw [upd_at]
  · rw [upd_ne _ _ q]
theorem newP_abs {T : Nat → Tk} {n : Nat} (h : ∀ i, i < n → MayT (T i).e (T i).l) : AllAbs n (onT T) (newP T) ∧ ∀ i, i < n → (onT T i).Ok 0 :=
  ⟨fun i _ => ⟨rfl, rfl⟩, fun i hi => ⟨h i hi, fun j hj => (List.not_mem_nil hj).elim, trivial, trivial, fun j t e => (by cases e), ⟨Int.le_refl _, by show (0 : Int) ≤ _; omega⟩⟩⟩
/-- What New leaves. -/
def NewQ (w : World) (n : Nat) (T : Nat → Tk) (e : Ending) (w' : World) : Prop :=
  ((∀ i, i < n → MayT (T i).e (T i).l) ∧ ∃ L, e = .returned (.tuple #[.pointer (some ⟨L.bp, 0, none⟩), .int .i64 0]) ∧ Hid (RQ w' L n (newP T) (onT T)) ∧ Hid (L.Ok n) ∧ Hid (∀ b, L.Own n b → w.heap.size ≤ b) ∧ Hid (Up w w')) ∨
  (¬ (∀ i, i < n → MayT (T i).e (T i).l) ∧ e = .returned (.tuple #[.pointer none, .int .i64 240]) ∧ Hid (Up w w'))
theorem t11long {w : World} {p : Option Addr} {n cap : Nat} (h : 256 < n) : Calls Try.prog 11 #[.slice p n cap] w (VU w (.tuple #[.pointer none, .int .i64 3])) := by
  have z : (256 : Int) < (n : Int) := by omega
  go_enter Try.func11, Try.ntmps11
  go_wp2
  go_ret2
  exact ⟨rfl, Up.refl _⟩
theorem BO.start (w : World) (T : Nat → Tk) : BO w (w.alloc (.cells #[.slice none 0 0, .int .i64 0] 73)) w.heap.size 0 0 (onT T) noV (.slice none 0 0) := by
  have e := heap_alloc_last w (.cells #[.slice none 0 0, .int .i64 0] 73)
  exact ⟨Up.alloc _ _, (row_cell e 0).1, (row_cell e 1).1, fun i => (row_cell e i).2, Nat.le_refl _, World.ownsRow_nil _ _ _ _, fun g q => by simp [Value.ownBlock] at q, fun i hi => by omega, fun i hi => by omega, fun i j hi => by omega⟩
theorem BO.lt {w0 w : World} {bq k : Nat} {a : Int} {X : Nat → On} {V : Nat → Value} {v : Value} (h : BO w0 w bq k a X V v) : bq < w.heap.size := World.block_lt_of_cell? w _ h.q0
theorem BO.up' {w0 w w' : World} {bq k : Nat} {a : Int} {X : Nat → On} {V : Nat → Value} {v : Value} (h : BO w0 w bq k a X V v) (hu : Up w w') : BO w0 w' bq k a X V v :=
  ⟨h.up.trans hu, cell_up h.q0 hu, cell_up h.q1 hu, fun i => (Kp.of_up (F := fun _ => True) hu).frozen (a := ⟨bq, i, none⟩) trivial h.lt (h.fq i), h.lo, owns_kp h.row (Kp.of_up (F := fun _ => True) hu) (fun _ _ => trivial), h.ne, fun i hi => (h.wt i hi).kp (Kp.of_up (F := fun _ => True) hu) (fun _ _ => trivial), h.vb, h.vv⟩
set_option maxRecDepth 200000 in
set_option maxHeartbeats 8000000 in
theorem t11 {w : World} {p : Option Addr} {n cap : Nat} {T : Nat → Tk} (h : TL w p n cap T) (hn : n ≤ 256) : Calls Try.prog 11 #[.slice p n cap] w (NewQ w n T) := by
  have HTL : Hid (TL w p n cap T) := h
  have HB0 : Hid (BO w (w.alloc (.cells #[.slice none 0 0, .int .i64 0] 73)) w.heap.size 0 0 (onT T) noV (.slice none 0 0)) := BO.start w T
  have hn2 : (n : Int) ≤ 256 := by omega
  clear h
  go_enter Try.func11, Try.ntmps11
  go_wp2_with fail
  generalize w.alloc (.cells #[.slice none 0 0, .int .i64 0] 73) = W0 at *
  obtain ⟨bq, hbq⟩ : ∃ bq, w.heap.size = bq := ⟨_, rfl⟩
  rw [hbq] at HB0 ⊢
  clear hn2
  go_loopw [5] (fun v5 wr => ∃ (k : Nat) (pp : Option Addr) (c : Nat), k ≤ n ∧ v5 = .int .i64 k ∧ Hid (BO w wr bq k 0 (onT T) noV (.slice pp k c)) ∧ Hid (∀ i, i < k → MayT (T i).e (T i).l)) (fun v5 _ => n - (intOf v5).toNat)
  case atStart => exact ⟨0, none, 0, by omega, rfl, HB0, fun i hi => by omega⟩
  case round =>
    clear HB0
    obtain ⟨k, pp, c, hk, rfl, HB, HM⟩ := hrel
    rename World => wr
    have y0 : (0 : Int) ≤ (k : Int) := by omega
    by_cases hkn : k < n
    · have b0 : (k : Int) < (n : Int) := by omega
      obtain ⟨gb, o, hpp, hr⟩ := HTL.out.rd (by omega)
      obtain ⟨c0, c1, c2⟩ := (hr k hkn).up HB.out.up
      obtain ⟨tk, hT⟩ : ∃ tk, T k = tk := ⟨_, rfl⟩
      rw [hT] at c0 c1 c2
      have HTK : Hid (T k = tk) := hT
      obtain ⟨e, l, r⟩ := tk
      try simp only at c0 c1 c2
      subst hpp
      have lg := World.block_lt_of_cell? wr _ c0
      have lg0 : gb < w.heap.size := World.block_lt_of_cell? w _ (hr k hkn).c0
      try simp only at lg
      clear hr hT
      by_cases hm : MayT e l
      · have HMM : Hid (MayT e l) := hm
        clear hm
        go_upto_region 9 with (go_at_call 26; (with_reducible refine (t26y r HMM.out _).mono ?_); rintro q w1 ⟨rfl, HU1⟩; (replace c0 := cell_up c0 HU1.out); (replace c1 := cell_up c1 HU1.out); (replace c2 := cell_up c2 HU1.out); (replace lg := Nat.lt_of_lt_of_le lg HU1.out.size))
        have HB1 : Hid (BO w w1 bq k 0 (onT T) noV (.slice pp k c)) := HB.out.up' HU1.out
        clear HB HU1
        refine wp_region_shut 12 [(0, none), (1, none), (2, none), (3, none), (4, some false), (5, none), (6, none), (7, none), (8, some false), (9, none), (10, some true), (11, some true)] (fun v => v.cell? ⟨bq, 0, none⟩ = some (.slice pp k c) ∧ TkAt v gb (o + k * 3) ⟨e, l, r⟩) (by kernel_rfl) (by decide) rfl (by kernel_rfl) (fun _ _ d _ _ h => by cases d <;> exact h) ⟨cell_up HB1.out.q0 (Up.drew _), ⟨cell_up c0 (Up.drew _), cell_up c1 (Up.drew _), cell_up c2 (Up.drew _)⟩⟩ ?_
        refine OrdS.looks (.pointer (some ⟨bq, 0, none⟩)) (some 23) _ rfl rfl (Or.inl ⟨by kernel_rfl, fun w' hS => ?_⟩) ?_
        · go_simp
        refine OrdS.looks (.pointer (some ⟨bq, 0, none⟩)) (some 24) _ rfl rfl (Or.inl ⟨by kernel_rfl, fun w' hS => ?_⟩) ?_
        · go_simp
        refine OrdS.looks (.pointer (some ⟨bq, 0, none⟩)) (some 25) _ rfl rfl (Or.inl ⟨by kernel_rfl, fun w' hS => ?_⟩) ?_
        · go_simp
        refine OrdS.looks (.pointer (some ⟨bq, 0, none⟩)) (some 26) _ rfl rfl (Or.inl ⟨by kernel_rfl, fun w' hS => ?_⟩) ?_
        · go_simp
        refine OrdS.reads (.slice pp k c) (some 27) _ rfl rfl (Or.inl ⟨by kernel_rfl, fun w' hS => ?_⟩) ?_
        · obtain ⟨z, -⟩ := hS
          go_simp
        refine OrdS.looks (.slice (some ⟨gb, o, none⟩) n cap) (some 28) _ rfl rfl (Or.inl ⟨by kernel_rfl, fun w' hS => ?_⟩) ?_
        · go_simp
        refine OrdS.looks (.int .i64 k) (some 29) _ rfl rfl (Or.inl ⟨by kernel_rfl, fun w' hS => ?_⟩) ?_
        · go_simp
        refine OrdS.looks (.pointer (some ⟨gb, o + k * 3, none⟩)) (some 30) _ rfl rfl (Or.inl ⟨by kernel_rfl, fun w' hS => ?_⟩) ?_
        · go_simp
        refine OrdS.reads (.agg #[.int .i64 e, .int .i64 l, .int .i64 r]) (some 31) _ rfl rfl (Or.inl ⟨by kernel_rfl, fun w' hS => ?_⟩) ?_
        · obtain ⟨-, z0, z1, z2⟩ := hS
          try simp only at z0 z1 z2
          go_simp
        simp only [Act.put, List.setIfInBounds_toArray, List.set_cons_succ, List.set_cons_zero]
        refine OrdS.looks (.agg #[.int .i64 e, .int .i64 l, .int .i64 r, .int .i64 0, .slice none 0 0, .int .i64 0]) (some 32) _ rfl rfl (Or.inl ⟨by kernel_rfl, fun w' hS => ?_⟩) ?_
        · go_simp
        simp only [Act.put, List.setIfInBounds_toArray, List.set_cons_succ, List.set_cons_zero]
        refine OrdS.does ?_
        refine wpOp_one (v := .slice (some ⟨w1.drew.heap.size, 0, none⟩) 1 1) (w' := w1.drew.alloc (.cells #[.int .i64 e, .int .i64 l, .int .i64 r, .int .i64 0, .slice none 0 0, .int .i64 0] 76)) (some 33) rfl rfl rfl (by go_simp) ?_
        have hz := heap_alloc_last w1.drew (.cells #[.int .i64 e, .int .i64 l, .int .i64 r, .int .i64 0, .slice none 0 0, .int .i64 0] 76)
        have HUV : Hid (Up w1 (w1.drew.alloc (.cells #[.int .i64 e, .int .i64 l, .int .i64 r, .int .i64 0, .slice none 0 0, .int .i64 0] 76))) := (Up.drew _).trans (Up.alloc _ _)
        generalize w1.drew.alloc (.cells #[.int .i64 e, .int .i64 l, .int .i64 r, .int .i64 0, .slice none 0 0, .int .i64 0] 76) = Z at *
        generalize w1.drew.heap.size = GB at *
        have HBZ : Hid (BO w Z bq k 0 (onT T) noV (.slice pp k c)) := HB1.out.up' HUV.out
        have HTZ : Hid (TkAt Z gb (o + k * 3) ⟨e, l, r⟩) := ⟨cell_up c0 HUV.out, cell_up c1 HUV.out, cell_up c2 HUV.out⟩
        refine ⟨⟨HBZ.out.q0, HTZ.out⟩, ?_⟩
        simp only [Act.put, List.setIfInBounds_toArray, List.set_cons_succ, List.set_cons_zero]
        refine OrdS.does ?_
        refine wpOp_on (some 34) rfl rfl rfl _ _ rfl (base := w.heap.size) (b := GB) (X := onT T) (V := noV) (z := onT T k) (u := noV k) rfl rfl HBZ.out.row (by show Z.heap[GB]? = some (.cells #[.int .i64 (T k).e, .int .i64 (T k).l, .int .i64 (T k).r, .int .i64 0, .slice none 0 0, .int .i64 0] 76); rw [HTK.out]; exact hz) rfl (by omega) HBZ.out.up.size ?_
        intro g' c' w5 HR5 HG5 HB5
        have HNX : Hid (∀ b, (Value.slice pp k c).ownBlock = some b → w.heap.size ≤ b ∧ b ≠ bq) := fun b q => ⟨(World.ownsRow.lt HBZ.out.row b q).1, HBZ.out.ne b q⟩
        have kq : Kp (fun b => some b ≠ (Value.slice pp k c).ownBlock) Z w5 := Kp.grown HG5.out
        have q5 : w5.cell? ⟨bq, 0, none⟩ = some (.slice pp k c) := kq.cell (fun q => (HNX.out bq q.symm).2 rfl) HBZ.out.q0
        have f5 : w5.frozen? ⟨bq, 0, none⟩ = false := kq.frozen (a := ⟨bq, 0, none⟩) (fun q => (HNX.out bq q.symm).2 rfl) HBZ.out.lt (HBZ.out.fq 0)
        have s5 : bq < w5.heap.size := Nat.lt_of_lt_of_le HBZ.out.lt HG5.out.size
        have hngb : some gb ≠ (Value.slice pp k c).ownBlock := fun q => by have := (HNX.out gb q.symm).1; omega
        refine ⟨⟨q5, ⟨kq.cell hngb HTZ.out.c0, kq.cell hngb HTZ.out.c1, kq.cell hngb HTZ.out.c2⟩⟩, ?_⟩
        have hbn := HBZ.out.next (z := onT T k) (u := noV k) HR5.out HG5.out HB5.out (World.ownsRow_nil _ _ _ _) (fun g' q => by simp [noV, Value.ownBlock] at q)
        rw [upd_self, upd_self] at hbn
        have HBN : Hid _ := hbn
        clear hbn kq hngb hz
        simp only [Act.put, List.setIfInBounds_toArray, List.set_cons_succ, List.set_cons_zero]
        refine OrdS.ends ?_
        simp only [List.drop_succ_cons, List.drop_zero]
        go_wp2_with fail
        go_roundw
        case rel => exact ⟨k + 1, some ⟨g', 0, none⟩, c', by omega, by go_num, HBN, fun i hi => by
          rcases Nat.lt_succ_iff_lt_or_eq.1 hi with q | rfl
          · exact HM.out i q
          · rw [HTK.out]; exact HMM.out⟩
        case measure => simp [intOf]; omega
      · go_wp2_with (go_at_call 26; (with_reducible refine (t26n r hm _).mono ?_); rintro q w1 ⟨rfl, HU1⟩)
        go_ret2
        refine Or.inr ⟨fun q => ?_, rfl, HB.out.up.trans HU1.out⟩
        have := q k hkn
        rw [HTK.out] at this
        exact hm this
    · obtain rfl : k = n := by omega
      go_wp2_with fail
      go_ret2
      obtain ⟨L, h1, h2, h3, h4⟩ := HB.out.rw
      subst h1
      exact Or.inl ⟨HM.out, L, rfl, ⟨h3, (newP_abs HM.out).1, (newP_abs HM.out).2, PB.newP HM.out⟩, h2, h4, HB.out.up⟩
end Go.Proofs.Ytjklaemhfhakhaa

/- Whether what stands at a place is an echo. -/
import Derived.Test.YtfggdaebahdnfaaHe
namespace Go.Proofs.Ytfggdaebahdnfaa
open Go.ChangeShapes Go.WideShapes Go.ChangeAt Go.RowKit Go.Fl Go.Sort
attribute [local go_sem] run_store_float call35 call46 run_neg fold_eq fold_ne fold_lt fold_gt abs_eq

theorem wpOp_fl {P : Program} {ops : Array Oper} {Q : Exit → Act → World → Prop} {K : Act → World → Prop} {a : Act} {w : World} {m : Nat} {o : Oper} {op : BinOp} {t1 t2 : TypeId} {x y : Operand} (ho : ops[m]? = some o) (hg : o.guard = none) (hop : o.op = .binOp op t1 x y t2) (p q : Nat) (hx : a.eval x = .float .f64 p) (hy : a.eval y = .float .f64 q) (h4 : op = .add ∨ op = .sub ∨ op = .mul ∨ op = .quo)
    (h : ∀ r n, Hid (ab r = bin op (ab p) (ab q)) → K (a.put o.dst (.float .f64 r)) (w.drewN n)) : wpOp P ops Q m K a w := by
  unfold wpOp
  have hw : Region.wanted o (yielded ops a.tmps) = true := by simp [Region.wanted, hg]
  simp only [ho, hw, if_true]
  left
  unfold Oper.wp
  obtain ⟨r, n, e, hr⟩ := run_fl (P := P) op t1 p q w h4
  have e2 : (execOp a.eval o).run P w = .ok (.value (.float .f64 r)) (w.drewN n) := by
    rcases h4 with rfl | rfl | rfl | rfl <;> simp [execOp, hop, hx, hy, eqGuard, e]
  rw [e2]
  exact h r n hr
/-- Greater than its level, so many times. -/
def echoD (way : Int) (G T nth : Nat) (t : Option Nat) (d : Array Nat) (k : Nat) : Bool := gtF (ab d[k]!) (bin .mul (lvD way G T nth d k) t)
def EB (w : World) (v : Bool) (e : Ending) (w' : World) : Prop := e = .returned (.bool v) ∧ Hid (Up w w')
def EC (b blk k x : Nat) (f : Value) (G T N : Nat) (W : World) : Prop := W.cell? ⟨blk, k, none⟩ = some (.float .f64 x) ∧ W.cell? ⟨b, 0, none⟩ = some f ∧ W.cell? ⟨b, 1, none⟩ = some (.int .i64 G) ∧ W.cell? ⟨b, 2, none⟩ = some (.int .i64 T) ∧ W.cell? ⟨b, 3, none⟩ = some (.int .i64 N)
theorem EC.up {b blk k x : Nat} {f : Value} {G T N : Nat} {W W' : World} (h : EC b blk k x f G T N W) (hu : Up W W') : EC b blk k x f G T N W' := ⟨cell_up h.1 hu, cell_up h.2.1 hu, cell_up h.2.2.1 hu, cell_up h.2.2.2.1 hu, cell_up h.2.2.2.2 hu⟩
theorem eg32 (args : Array Value) (w : World) : (callFunc 32 args).run Try.prog w = .ok (.enter 32 args) w := enters Try.func32 (by kernel_rfl) (by kernel_rfl) _ _
theorem lev_one {w : World} {way : Int} {f : Value} (h : Lev w way f) : ∃ k a b, f = .func k a b := by
  rcases h with ⟨b, _, rfl, _⟩ | ⟨_, rfl⟩ | ⟨_, _, _, rfl⟩ <;> exact ⟨_, _, _, rfl⟩
set_option maxHeartbeats 1000000 in
theorem t38 {w : World} {p : Option Addr} {n cap at0 G T N t : Nat} {d : Array Nat} {way : Int} {f : Value} (hL : Lev w way f) (h : SV w p n cap d) (hn : n ≤ 16384) (hk : at0 < n) (hG : G ≤ 16384) (hT : T ≤ 16384) :
    Calls Try.prog 38 #[.agg #[f, .int .i64 G, .int .i64 T, .int .i64 N], .slice p n cap, .int .i64 at0, .float .f64 t] w (EB w (echoD way G T N (ab t) d at0)) := by
  have H : Hid (SV w p n cap d) := h
  have HL : Hid (Lev w way f) := hL
  obtain ⟨blk, off, rfl, hr⟩ := h.rd (by omega)
  obtain ⟨x, hx⟩ : ∃ x, d[at0]! = x := ⟨_, rfl⟩
  have cx := hr at0 (by rw [h.len]; exact hk)
  rw [hx] at cx
  have HX : Hid (d[at0]! = x) := hx
  have CX : Hid (w.cell? ⟨blk, off + at0, none⟩ = some (.float .f64 x)) := cx
  clear h hL hr hx cx
  obtain ⟨fk, fa, fb, hf⟩ := lev_one HL.out
  have q1 : (at0 : Int) < (n : Int) := by omega
  have C32 : Hid (∀ W, Up w W → Calls Try.prog 32 #[.agg #[f, .int .i64 G, .int .i64 T, .int .i64 N], .slice (some ⟨blk, off, none⟩) n cap, .int .i64 at0] W (FU W (lvD way G T N d at0))) := fun W hu => t32 (HL.out.up hu) (H.out.up hu) hn hk hG hT
  subst hf
  go_enter Try.func38, Try.ntmps38
  go_wp2_with fail
  refine wp_region_ord 10 [(0, none), (1, none), (2, none), (3, some false), (4, some false), (5, none), (6, none), (8, none), (7, some true), (9, some true)] (EC w.heap.size blk (off + at0) x (.func fk fa fb) G T N) (by kernel_rfl) (by decide) rfl (by kernel_rfl) (fun _ _ d _ _ h => by cases d <;> exact h) (by exact ⟨cell_up CX.out ((Up.alloc _ _).trans (Up.drewN _ 1)), box4 w _ _ _ _ 0 _ rfl, box4 w _ _ _ _ 1 _ rfl, box4 w _ _ _ _ 2 _ rfl, box4 w _ _ _ _ 3 _ rfl⟩) ?_
  refine ⟨_, .slice (some ⟨blk, off, none⟩) n cap, some 9, rfl, rfl, Or.inl ⟨rfl, fun w' hS => ?_⟩, ?_⟩
  · go_simp
  refine ⟨_, .int .i64 at0, some 10, rfl, rfl, Or.inl ⟨rfl, fun w' hS => ?_⟩, ?_⟩
  · go_simp
  refine ⟨_, .pointer (some ⟨blk, off + at0, none⟩), some 11, rfl, rfl, Or.inl ⟨rfl, fun w' hS => ?_⟩, ?_⟩
  · go_simp
  refine ⟨_, .float .f64 x, some 12, rfl, rfl, Or.inl ⟨rfl, fun w' hS => ?_⟩, ?_⟩
  · obtain ⟨l0, l1, l2, l3, l4⟩ := hS
    go_simp
  refine ⟨_, .agg #[.func fk fa fb, .int .i64 G, .int .i64 T, .int .i64 N], some 13, rfl, rfl, Or.inl ⟨rfl, fun w' hS => ?_⟩, ?_⟩
  · obtain ⟨l0, l1, l2, l3, l4⟩ := hS
    go_simp
  refine ⟨_, .slice (some ⟨blk, off, none⟩) n cap, some 14, rfl, rfl, Or.inl ⟨rfl, fun w' hS => ?_⟩, ?_⟩
  · go_simp
  refine ⟨_, .int .i64 at0, some 15, rfl, rfl, Or.inl ⟨rfl, fun w' hS => ?_⟩, ?_⟩
  · go_simp
  refine ⟨_, .float .f64 t, some 17, rfl, rfl, Or.inl ⟨rfl, fun w' hS => ?_⟩, ?_⟩
  · go_simp
  refine wpOp_call (f := 32) rfl rfl rfl #[.agg #[.func fk fa fb, .int .i64 G, .int .i64 T, .int .i64 N], .slice (some ⟨blk, off, none⟩) n cap, .int .i64 at0] (by kernel_rfl) (eg32 _ _) ?_
  refine (C32.out _ ((Up.alloc _ _).trans (Up.drewN _ 1))).mono ?_
  rintro e w1 ⟨r, rfl, hr, HU⟩
  refine ⟨_, rfl, EC.up ?_ HU.out, ?_⟩
  · exact ⟨cell_up CX.out ((Up.alloc _ _).trans (Up.drewN _ 1)), box4 w _ _ _ _ 0 _ rfl, box4 w _ _ _ _ 1 _ rfl, box4 w _ _ _ _ 2 _ rfl, box4 w _ _ _ _ 3 _ rfl⟩
  refine wpOp_fl rfl rfl rfl r t (by kernel_rfl) (by kernel_rfl) (Or.inr (Or.inr (Or.inl rfl))) ?_
  intro r2 k2 hr2
  refine ⟨EC.up (EC.up ?_ HU.out) (Up.drewN _ _), ?_⟩
  · exact ⟨cell_up CX.out ((Up.alloc _ _).trans (Up.drewN _ 1)), box4 w _ _ _ _ 0 _ rfl, box4 w _ _ _ _ 1 _ rfl, box4 w _ _ _ _ 2 _ rfl, box4 w _ _ _ _ 3 _ rfl⟩
  simp only [OrdW, List.drop_succ_cons, List.drop_zero, Act.put, List.setIfInBounds_toArray, List.set_cons_succ, List.set_cons_zero]
  go_wp2
  go_ret
  refine ⟨?_, (((Up.alloc _ _).trans (Up.drewN _ 1)).trans HU.out).trans (Up.drewN _ _)⟩
  unfold echoD
  rw [HX.out, ← hr.out, ← hr2.out]
  rfl
end Go.Proofs.Ytfggdaebahdnfaa

/- Memory: what is kept; functions that are turned at a place. -/
import Derived.Test.YtjklaemhfhakhaaRows
import Derived.Test.YtjklaemhfhakhaaMa
import Derived.OpenShut
import Derived.WalkKit
import Derived.WalkLawsBesides
import Derived.ProofKit
import Derived.Deep.WholeRow
import Derived.Laws.CopyOwn
import Derived.BigQuiet
import Derived.BigRegion
import Derived.Deep.QuietTactic
import Derived.Deep.LoopGhost
import Derived.Deep.RegionWith
namespace Go.Proofs.Ytjklaemhfhakhaa
open Go.ChangeShapes Go.WideShapes Go.ChangeAt Go.RowKit

/-- Of what was there nothing has turned. -/
def Up (w w' : World) : Prop := RowKit.Below w.heap.size w w'
theorem Up.refl (w : World) : Up w w := Below.refl _ _
theorem Up.trans {a b c : World} (h : Up a b) (k : Up b c) : Up a c := RowKit.Below.trans h (RowKit.Below.mono k (RowKit.Below.size h))
theorem Up.drewN (w : World) (n : Nat) : Up w (w.drewN n) := below_drewN (Below.refl _ _) n
theorem Up.drew (w : World) : Up w w.drew := Up.drewN w 1
theorem Up.alloc (w : World) (o : Obj) : Up w (w.alloc o) := (Below.refl _ _).alloc (Nat.le_refl _) _
theorem kept2 {W w1 : World} {g : Nat} {o : Obj} (h : W.heap[g]? = some o) (hb : Below W.heap.size W w1) : w1.heap[g]? = some o := by
  rw [hb.block g (Array.getElem?_eq_some_iff.1 h).1]; exact h
theorem cell_up {w w' : World} {a : Addr} {x : Value} (h : w.cell? a = some x) (hu : Up w w') : w'.cell? a = some x := by
  rw [World.cell?_of_block (hu.block a.block (World.block_lt_of_cell? w _ h))]; exact h
theorem frozen_up {w w' : World} {a : Addr} {x : Value} (h : w.cell? a = some x) (hf : w.frozen? a = false) (hu : Up w w') : w'.frozen? a = false := (World.frozen?_of_block (hu.block a.block (World.block_lt_of_cell? w _ h))).trans hf
theorem cell_other {w : World} {a a' : Addr} {x y : Value} (h : w.cell? a = some x) (hn : a.block ≠ a'.block ∨ a.off ≠ a'.off) : (w.setCell a' y).cell? a = some x := by
  rw [World.cell?_setCell_other _ _ _ _ (by first | exact hn | (rcases hn with e | e <;> intro e2 <;> exact e (by rw [e2])))]; exact h
/-- The blocks of which F speaks are kept. -/
structure Kp (F : Nat → Prop) (w w' : World) : Prop where
  os : w'.os = w.os
  tape : w'.tape = w.tape
  output : w'.output = w.output
  size : w.heap.size ≤ w'.heap.size
  block : ∀ k, F k → k < w.heap.size → w'.heap[k]? = w.heap[k]?
theorem Kp.refl (F : Nat → Prop) (w : World) : Kp F w w := ⟨rfl, rfl, rfl, Nat.le_refl _, fun _ _ _ => rfl⟩
theorem Kp.of_up {F : Nat → Prop} {w w' : World} (h : Up w w') : Kp F w w' := ⟨RowKit.Below.os h, RowKit.Below.tape h, RowKit.Below.output h, RowKit.Below.size h, fun k _ hk => RowKit.Below.block h k hk⟩
theorem Kp.trans {F : Nat → Prop} {a b c : World} (h : Kp F a b) (k : Kp F b c) : Kp F a c :=
  ⟨k.os.trans h.os, k.tape.trans h.tape, k.output.trans h.output, Nat.le_trans h.size k.size, fun i hi hl => (k.block i hi (Nat.lt_of_lt_of_le hl h.size)).trans (h.block i hi hl)⟩
theorem Kp.mono {F G : Nat → Prop} {a b : World} (h : Kp F a b) (hG : ∀ k, k < a.heap.size → G k → F k) : Kp G a b := ⟨h.os, h.tape, h.output, h.size, fun k hk hl => h.block k (hG k hl hk) hl⟩
theorem Kp.cell {F : Nat → Prop} {w w' : World} {a : Addr} {v : Value} (h : Kp F w w') (hF : F a.block) (hc : w.cell? a = some v) : w'.cell? a = some v := by
  rw [World.cell?_of_block (h.block a.block hF (World.block_lt_of_cell? w _ hc))]; exact hc
theorem Kp.frozen {F : Nat → Prop} {w w' : World} {a : Addr} (h : Kp F w w') (hF : F a.block) (hl : a.block < w.heap.size) (hc : w.frozen? a = false) : w'.frozen? a = false := (World.frozen?_of_block (h.block a.block hF hl)).trans hc
theorem Kp.up {w w' : World} {F : Nat → Prop} (h : Kp F w w') (hF : ∀ k, k < w.heap.size → F k) : Up w w' := ⟨h.os, h.tape, h.output, h.size, fun k hk => h.block k (hF k hk) hk⟩
theorem Kp.drewN {F : Nat → Prop} {w w' : World} (h : Kp F w w') (n : Nat) : Kp F w (w'.drewN n) := h.trans (Kp.of_up (Up.drewN _ _))
theorem Kp.alloc {F : Nat → Prop} {w w' : World} (h : Kp F w w') (o : Obj) : Kp F w (w'.alloc o) := h.trans (Kp.of_up (Up.alloc _ _))
theorem Kp.set (F : Nat → Prop) (w : World) {g o : Nat} (hg : ¬ F g) (v : Value) : Kp F w (w.setCell ⟨g, o, none⟩ v) := by
  have b : Below 0 w (w.setCell ⟨g, o, none⟩ v) := Below.setCell (Below.refl _ _) (Nat.zero_le _) v
  exact ⟨b.os, b.tape, b.output, b.size, fun k hk _ => Below.heap_setCell w ⟨g, o, none⟩ v k (fun e => hg (by have e2 : k = g := e; rw [← e2]; exact hk))⟩
theorem Kp.setCell {F : Nat → Prop} {w w' : World} (h : Kp F w w') {g o : Nat} (hg : ¬ F g) (v : Value) : Kp F w (w'.setCell ⟨g, o, none⟩ v) := h.trans (Kp.set F w' hg v)
theorem run_min {P : Program} (ts : Array TypeId) (t : TypeId) (x y : Int) (w : World) : (Builtin.min_ ts t #[.int .i64 x, .int .i64 y]).run P w = .ok (.int .i64 (min x y)) w := by
  rcases Int.lt_or_le y x with h | h
  · rw [show min x y = y by omega]
    simp [Builtin.min_, Builtin.min2]; omega
  · rw [show min x y = x by omega]
    simp [Builtin.min_, Builtin.min2]; omega
theorem run_max {P : Program} (ts : Array TypeId) (t : TypeId) (x y : Int) (w : World) : (Builtin.max_ ts t #[.int .i64 x, .int .i64 y]).run P w = .ok (.int .i64 (max x y)) w := by
  rcases Int.lt_or_le x y with h | h
  · rw [show max x y = y by omega]
    simp [Builtin.max_, Builtin.max2]; omega
  · rw [show max x y = x by omega]
    simp [Builtin.max_, Builtin.max2]; omega
end Go.Proofs.Ytjklaemhfhakhaa
/- The leaves: may, ahead, first. -/
namespace Go.Proofs.Ytjklaemhfhakhaa
open Go.ChangeShapes Go.WideShapes Go.ChangeAt Go.RowKit

def jv (j : Jb) : Value := .agg #[.int .i64 j.task, .int .i64 j.frm, .int .i64 j.due, .int .i64 j.left, .int .i64 j.rank]
/-- What a call leaves that makes memory and hands back a value that is known. -/
def VU (w : World) (v : Value) (e : Ending) (w' : World) : Prop := e = .returned v ∧ Hid (Up w w')
theorem heap_alloc_last (w : World) (o : Obj) : (w.alloc o).heap[w.heap.size]? = some o := by
  show (w.heap.push o)[w.heap.size]? = some o
  simp
theorem results_st_tmp {fn : Func} {p u : Tmp} {ty : TypeId} (h : fn.results = #[.cell p ty, .tmp u]) (tmps : Array Value) (w : World) (g : Nat) (v : Value) (hp : tmps.getD p undef = .pointer (some ⟨g, 0, none⟩)) (hl : (loadVar ty ⟨g, 0, none⟩).run Try.prog w = .ok v w) :
    (results fn tmps).run Try.prog w = .ok (.tuple #[v, tmps.getD u undef]) w := by
  have hp' : tmps[p]?.getD undef = .pointer (some ⟨g, 0, none⟩) := by simpa using hp
  simp [results, h, hp', asAddr, hl]
theorem results_st_int {fn : Func} {p q : Tmp} {ty t2 : TypeId} (h : fn.results = #[.cell p ty, .cell q t2]) (tmps : Array Value) (w : World) (g g2 : Nat) (v x : Value) (hp : tmps.getD p undef = .pointer (some ⟨g, 0, none⟩)) (hq : tmps.getD q undef = .pointer (some ⟨g2, 0, none⟩)) (hl : (loadVar ty ⟨g, 0, none⟩).run Try.prog w = .ok v w) (hl2 : (loadVar t2 ⟨g2, 0, none⟩).run Try.prog w = .ok x w) :
    (results fn tmps).run Try.prog w = .ok (.tuple #[v, x]) w := by
  have hp' : tmps[p]?.getD undef = .pointer (some ⟨g, 0, none⟩) := by simpa using hp
  have hq' : tmps[q]?.getD undef = .pointer (some ⟨g2, 0, none⟩) := by simpa using hq
  simp [results, h, hp', hq', asAddr, hl, hl2]
theorem load_row5 {w : World} {g : Nat} {j : Jb} (h : w.heap[g]? = some (.cells #[.int .i64 j.task, .int .i64 j.frm, .int .i64 j.due, .int .i64 j.left, .int .i64 j.rank] 88 (0, 0))) : (loadVar 88 ⟨g, 0, none⟩).run Try.prog w = .ok (jv j) w :=
  run_loadVar_row w g 88 88 _ (0, 0) _ h Try.underlying88 rfl (by kernel_rfl)
theorem load_int {w : World} {g : Nat} {x : Int} (h : w.cell? ⟨g, 0, none⟩ = some (.int .i64 x)) : (loadVar 2 ⟨g, 0, none⟩).run Try.prog w = .ok (.int .i64 x) w := by
  go_simp
theorem t25 (e l r : Int) (w : World) : Calls Try.prog 25 #[.agg #[.int .i64 e, .int .i64 l, .int .i64 r]] w (VU w (.bool (decide (1 ≤ l) && decide (l ≤ e) && decide (e ≤ 1099511627776)))) := by
  go_enter Try.func25, Try.ntmps25
  go_wp2
  all_goals (go_ret; refine ⟨?_, ?_⟩)
  all_goals first | exact Up.alloc _ _ | (show Ending.returned (Value.bool _) = _; first | rfl | (congr 2; symm; simp; omega) | (congr 2; simp; omega) | (congr 2; simp_all; done))
theorem t49 (a b : Jb) (w : World) : Calls Try.prog 49 #[jv a, jv b] w (VU w (.bool (ahB a b))) := by
  obtain ⟨a1, a2, a3, a4, a5⟩ := a
  obtain ⟨b1, b2, b3, b4, b5⟩ := b
  show Calls Try.prog 49 #[.agg #[.int .i64 a1, .int .i64 a2, .int .i64 a3, .int .i64 a4, .int .i64 a5], .agg #[.int .i64 b1, .int .i64 b2, .int .i64 b3, .int .i64 b4, .int .i64 b5]] w _
  go_enter Try.func49, Try.ntmps49
  go_wp2
  all_goals (go_ret; refine ⟨?_, ?_⟩)
  all_goals first | exact (Up.alloc _ _).trans (Up.alloc _ _) | (show Ending.returned (Value.bool _) = _; congr 2; simp_all [ahB]; done)
end Go.Proofs.Ytjklaemhfhakhaa
/- A plan in memory. -/
namespace Go.Proofs.Ytjklaemhfhakhaa
open Go.ChangeShapes Go.WideShapes Go.ChangeAt Go.RowKit

/-- Where a plan lies. -/
structure Ly where
  bp : Nat
  bt : Nat
  br : Nat → Nat
  ro : Nat → Nat
  rc : Nat → Nat
structure Ly.Ok (L : Ly) (n : Nat) : Prop where
  pt : L.bp ≠ L.bt
  rp : ∀ i, i < n → L.br i ≠ L.bp
  rt : ∀ i, i < n → L.br i ≠ L.bt
  rr : ∀ i j, i < n → j < n → i ≠ j → L.br i ≠ L.br j
/-- A plan's own blocks. -/
def Ly.Own (L : Ly) (n k : Nat) : Prop := k = L.bp ∨ k = L.bt ∨ ∃ i, i < n ∧ k = L.br i
structure RowAt (w : World) (g o : Nat) (x : Rw) : Prop where
  nx : w.cell? ⟨g, o, none⟩ = some (.int .i64 x.nx)
  e : w.cell? ⟨g, o + 1, none⟩ = some (.int .i64 x.e)
  l : w.cell? ⟨g, o + 2, none⟩ = some (.int .i64 x.l)
  r : w.cell? ⟨g, o + 3, none⟩ = some (.int .i64 x.r)
structure PW (w : World) (L : Ly) (n : Nat) (p : Pl) : Prop where
  p0 : w.cell? ⟨L.bp, 0, none⟩ = some (.int .i64 p.now)
  p1 : w.cell? ⟨L.bp, 1, none⟩ = some (.slice (some ⟨L.bt, 0, none⟩) n n)
  cr : ∀ i, i < n → w.cell? ⟨L.bt, i * 2, none⟩ = some (.slice (some ⟨L.br i, L.ro i, none⟩) ((p.c i).tl.length + 1) (L.rc i))
  cd : ∀ i, i < n → w.cell? ⟨L.bt, i * 2 + 1, none⟩ = some (.int .i64 (p.c i).done)
  rw' : ∀ i, i < n → ∀ k x, ((p.c i).hd :: (p.c i).tl)[k]? = some x → RowAt w (L.br i) (L.ro i + k * 4) x
  cap : ∀ i, i < n → (p.c i).tl.length + 1 ≤ L.rc i
  sp : ∀ i, i < n → ∀ k, k < L.rc i * 4 → (w.cell? ⟨L.br i, L.ro i + k, none⟩).isSome = true
  lp : L.bp < w.heap.size
  lt : L.bt < w.heap.size
  fp : ∀ k, w.frozen? ⟨L.bp, k, none⟩ = false
  ft : ∀ k, w.frozen? ⟨L.bt, k, none⟩ = false
  fr : ∀ i, i < n → ∀ k, w.frozen? ⟨L.br i, k, none⟩ = false
theorem PW.hd {w : World} {L : Ly} {n : Nat} {p : Pl} (h : PW w L n p) {i : Nat} (hi : i < n) : RowAt w (L.br i) (L.ro i) (p.c i).hd := by
  have := h.rw' i hi 0 (p.c i).hd rfl
  rwa [Nat.zero_mul, Nat.add_zero] at this
theorem RowAt.kp {F : Nat → Prop} {w w' : World} {g o : Nat} {x : Rw} (h : RowAt w g o x) (hk : Kp F w w') (hF : F g) : RowAt w' g o x :=
  ⟨hk.cell hF h.nx, hk.cell hF h.e, hk.cell hF h.l, hk.cell hF h.r⟩
theorem PW.lr {w : World} {L : Ly} {n : Nat} {p : Pl} (h : PW w L n p) {i : Nat} (hi : i < n) : L.br i < w.heap.size := World.block_lt_of_cell? w _ (h.hd hi).nx
theorem PW.kp {F : Nat → Prop} {w w' : World} {L : Ly} {n : Nat} {p : Pl} (h : PW w L n p) (hk : Kp F w w') (hF : ∀ k, L.Own n k → F k) : PW w' L n p := by
  have f1 := hF L.bp (Or.inl rfl)
  have f2 := hF L.bt (Or.inr (Or.inl rfl))
  have f3 : ∀ i, i < n → F (L.br i) := fun i hi => hF _ (Or.inr (Or.inr ⟨i, hi, rfl⟩))
  refine ⟨hk.cell f1 h.p0, hk.cell f1 h.p1, fun i hi => hk.cell f2 (h.cr i hi), fun i hi => hk.cell f2 (h.cd i hi), fun i hi k x hx => (h.rw' i hi k x hx).kp hk (f3 i hi), h.cap, fun i hi k hk' => ?_, Nat.lt_of_lt_of_le h.lp hk.size, Nat.lt_of_lt_of_le h.lt hk.size, fun k => hk.frozen f1 h.lp (h.fp k), fun k => hk.frozen f2 h.lt (h.ft k), fun i hi k => hk.frozen (f3 i hi) (h.lr hi) (h.fr i hi k)⟩
  have := h.sp i hi k hk'
  obtain ⟨v, hv⟩ := Option.isSome_iff_exists.1 this
  rw [hk.cell (f3 i hi) hv]; rfl
theorem PW.up {w w' : World} {L : Ly} {n : Nat} {p : Pl} (h : PW w L n p) (hu : Up w w') : PW w' L n p := h.kp (F := fun _ => True) (Kp.of_up hu) (fun _ _ => trivial)
set_option maxHeartbeats 1000000 in
theorem t55 {w : World} {L : Ly} {n : Nat} {p : Pl} (h : PW w L n p) (hb : PB n p) {i : Nat} (hi : i < n) : Calls Try.prog 55 #[.pointer (some ⟨L.bt, i * 2, none⟩), .int .i64 i] w (VU w (jv (p.J i))) := by
  have c1 := h.cr i hi
  have c2 := h.cd i hi
  obtain ⟨c3, c4, c5, c6⟩ := h.hd hi
  have ok := hb.c i hi
  obtain ⟨m1, m2, m3⟩ := ok.hd.may
  have m4 := ok.hd.lo
  have m5 := ok.hd.hi
  have m6 := ok.lo
  have m7 := ok.hi
  have HJ : Hid (p.J i = ⟨i, (p.c i).hd.nx, (p.c i).hd.nx + (p.c i).hd.e, (p.c i).hd.l - (p.c i).done, (p.c i).hd.r⟩) := rfl
  have hl := h.cap i hi
  have l1 := h.lt
  have l2 := h.lr hi
  clear h hb ok
  generalize (p.c i).hd.nx = nx at *
  generalize (p.c i).hd.e = e at *
  generalize (p.c i).hd.l = l at *
  generalize (p.c i).hd.r = r at *
  generalize (p.c i).done = d at *
  generalize (p.c i).tl.length = t at *
  generalize L.rc i = rc at *
  generalize L.br i = g at *
  generalize L.ro i = o at *
  generalize L.bt = bt at *
  have d1 : IntKind.i64.wrap (nx + e) = nx + e := by rw [IntKind.wrap_i64]; omega
  have d2 : IntKind.i64.wrap (l - d) = l - d := by rw [IntKind.wrap_i64]; omega
  go_enter Try.func55, Try.ntmps55
  obtain ⟨T, hT⟩ : ∃ T, t + 1 = T := ⟨_, rfl⟩
  rw [hT] at c1 hl
  have q1 : (0 : Int) < (T : Int) := by omega
  clear hT
  go_wp2_with fail
  have HU : Hid (Up w ((w.alloc (.cells #[.int .i64 0, .int .i64 0, .int .i64 0, .int .i64 0, .int .i64 0] 88)).alloc (.cells #[.int .i64 nx, .int .i64 e, .int .i64 l, .int .i64 r] 67))) := (Up.alloc _ _).trans (Up.alloc _ _)
  go_region
  have hu : Up w ((w.alloc (.cells #[.int .i64 i, .int .i64 nx, .int .i64 (nx + e), .int .i64 (l - d), .int .i64 r] 88)).alloc (.cells #[.int .i64 nx, .int .i64 e, .int .i64 l, .int .i64 r] 67)).drew := ((Up.alloc _ _).trans (Up.alloc _ _)).trans (Up.drew _)
  go_wp2_with fail
  refine bodyPost_ret (results_cell_row Try.results55 _ _ _ 88 #[.int .i64 i, .int .i64 nx, .int .i64 (nx + e), .int .i64 (l - d), .int .i64 r] (0, 0) _ rfl (kept2 (heap_alloc_last w _) ((Up.alloc _ _).trans (Up.drew _))) Try.underlying88 rfl (by kernel_rfl)) rfl ⟨?_, hu⟩
  rw [HJ.out]; rfl
end Go.Proofs.Ytjklaemhfhakhaa

/- A step of the law, whatever it is; the law where tasks are refused. -/
import Derived.Test.YtjklaemhfhakhaaOa
import Derived.Test.YtjklaemhfhakhaaNn
import Derived.Test.YtjklaemhfhakhaaOd
import Derived.Test.YtjklaemhfhakhaaNy
import Derived.Test.YtjklaemhfhakhaaNj
namespace Go.Proofs.Ytjklaemhfhakhaa
open Go.ChangeShapes Go.WideShapes Go.ChangeAt Go.RowKit

theorem StepR.more {w : World} {L : Ly} {M : RL} {n N : Nat} {e : Ending} {w' : World} (h : StepR w L M n N e w') : StepR w L M n (N + 1) e w' := by
  obtain ⟨h0, L', M', p', X', h1, h2, h3, h4, h5⟩ := h
  exact ⟨h0, L', M', p', X', ⟨h1.out.pw, h1.out.lo, h1.out.rw', h1.out.mo, h1.out.ap, h1.out.two.more⟩, h2, h3, h4, h5⟩
theorem t12 {w : World} {L : Ly} {M : RL} {n N : Nat} {p : Pl} {X : Nat → On} (h : Both w L M n N p X) (hn : n ≤ 256) (hN : N ≤ 700000) (s : Stp) (hs : -9223372036854775808 ≤ s.t) : Calls Try.prog 12 #[.pointer (some ⟨L.bp, 0, none⟩), .pointer (some ⟨M.bp, 0, none⟩), s.val] w (StepR w L M n (N + 1)) := by
  obtain ⟨d, t, i, e, l, r⟩ := s
  simp only at hs
  by_cases h0 : d = 0
  · subst h0
    rcases Nat.eq_zero_or_pos n with rfl | hp
    · exact (t12z h t i e l r).mono fun _ _ q => q.more
    · rcases Int.lt_or_le 1152921504606846976 (nextE n p) with q | q
      · exact (t12f h hn (by omega) hp q t i e l r).mono fun _ _ q => q.more
      · exact (t12a h hn (by omega) hp q t i e l r).mono fun _ _ q => q.more
  by_cases h1 : d = 1
  · subst h1
    exact (t12u h hn (by omega) t i e l r hs).mono fun _ _ q => q.more
  by_cases h2 : d = 2
  · subst h2
    exact t12s h hn (by omega) t i e l r
  by_cases h3 : d = 3
  · subst h3
    exact (t12v h hn (by omega) t i e l r).mono fun _ _ q => q.more
  exact (t12o h h0 h1 h2 h3 t i e l r).mono fun _ _ q => q.more
theorem RM.tl {w : World} {g n c : Nat} {D : Nat → Tk} {z : Tk} (h : RM w g n D z) (hc : n + 1 ≤ c) : TL w (some ⟨g, 0, none⟩) n c D :=
  ⟨by omega, fun _ => ⟨g, 0, rfl, fun i hi => by rw [Nat.zero_add]; exact h.at' i hi⟩⟩
theorem up_grown {w w1 w2 : World} {row : Option Nat} {o : Obj} (hu : Up w w1) (hg : (w1.alloc o).grownBy w2 row) (hr : ∀ b, row = some b → w.heap.size ≤ b) : Up w w2 :=
  ((Kp.of_up (F := fun _ => True) (hu.trans (Up.alloc _ _))).two (Kp.grown hg) (fun b _ hb e => by have := hr b e.symm; omega)).up (fun _ _ => trivial)
theorem up_first {w w1 : World} {o : Obj} (hg : (w.alloc o).grownBy w1 (Value.slice (some ⟨w.heap.size, 0, none⟩) 0 0).ownBlock) : Up w w1 :=
  up_grown (Up.refl _) hg fun b e => by
    have h : w.heap.size = b := by simpa [Value.ownBlock] using e
    omega
set_option maxHeartbeats 4000000 in
set_option maxRecDepth 100000 in
/-- Too many steps. -/
theorem t3m {w : World} {p : Option Addr} {n cap : Nat} {q : Option Addr} {ns cs : Nat} (hns : 500 < ns) : Calls Try.prog 3 #[.slice p n cap, .slice q ns cs] w (VU w (.bool true)) := by
  have z0 : (500 : Int) < (ns : Int) := by omega
  go_enter Try.func3, Try.ntmps3
  go_wp2_with (go_at_call 9; (with_reducible refine (t9 _).mono ?_); rintro e w1 ⟨rfl, HU⟩)
  go_ret
  exact ⟨rfl, HU⟩
set_option maxHeartbeats 8000000 in
set_option maxRecDepth 100000 in
/-- Tasks that are refused. -/
theorem t3r {w : World} {p : Option Addr} {n cap : Nat} {T : Nat → Tk} (h : TL w p n cap T) (hb : (n + 1) * 24 ≤ 140737488355328) {q : Option Addr} {ns cs : Nat} (hns : ns ≤ 500) {z : Int}
    (c10 : ∀ V q c, TL V q n c T → Calls Try.prog 10 #[.slice q n c] V (VU V (.tuple #[.pointer none, .int .i64 z])))
    (c11 : ∀ V q c, TL V q n c T → Calls Try.prog 11 #[.slice q n c] V (VU V (.tuple #[.pointer none, .int .i64 z]))) : Calls Try.prog 3 #[.slice p n cap, .slice q ns cs] w (VU w (.bool true)) := by
  have z0 : ¬ (500 : Int) < (ns : Int) := by omega
  have HT : Hid (TL w p n cap T) := h
  have C10 : Hid (∀ V q c, TL V q n c T → Calls Try.prog 10 #[.slice q n c] V (VU V (.tuple #[.pointer none, .int .i64 z]))) := c10
  have C11 : Hid (∀ V q c, TL V q n c T → Calls Try.prog 11 #[.slice q n c] V (VU V (.tuple #[.pointer none, .int .i64 z]))) := c11
  have HE : Hid ((w.alloc (.cells #[] 26)).ownsRow w.heap.size 26 3 (.slice (some ⟨w.heap.size, 0, none⟩) 0 0) 0 []) := empty_own w
  have HT1 : Hid (TL (w.alloc (.cells #[] 26)) p n cap T) := h.up (Up.alloc _ _)
  have hbase : w.heap.size ≤ (w.alloc (.cells #[] 26)).heap.size := (Up.alloc _ _).size
  have hb1 : n * 24 ≤ 140737488355328 := by omega
  clear h c10 c11
  go_enter Try.func3, Try.ntmps3
  go_upto_region 3 with fail
  go_wp2_with (first
    | (at_builtin; (with_reducible refine wpList_app_tk rfl _ _ rfl w.heap.size 0 (some ⟨w.heap.size, 0, none⟩) p n cap T rfl rfl HE.out HT1.out hb1 hbase ?_); intro p1 c1 w1 HO1 HG1; (have HU1 : Hid (Up w w1) := up_first HG1.out); (have hbase1 : w.heap.size ≤ w1.heap.size := HU1.out.size))
    | (at_builtin; (with_reducible refine wpList_mark (z := ⟨77, 0, 0⟩) rfl _ _ rfl p1 n c1 _ rfl rfl HO1.out hbase1 hb ?_); intro p2 c2 w2 HO2 HG2; (have HU2 : Hid (Up w w2) := up_grown HU1.out HG2.out (fun b e => (World.ownsRow.lt HO1.out b e).1)); (obtain ⟨g, c3, hv, HRM0, hge, hcap⟩ := RM.of HO2.out); (simp only [Value.slice.injEq, true_and] at hv); (obtain ⟨rfl, rfl⟩ := hv); (have HRT : Hid (TL w2 (some ⟨g, 0, none⟩) n c2 T) := HRM0.tl hcap); clear HRM0; (have hcap1 : (n : Int) ≤ (c2 : Int) := by omega); (have hn0 : (0 : Int) ≤ (n : Int) := by omega))
    | (go_at_call 10; (with_reducible refine (C10.out _ _ _ HRT.out).mono ?_); rintro e w3 ⟨rfl, HU3⟩)
    | (go_at_call 11; (with_reducible refine (C11.out w3 p cap ?_).mono ?_); (exact HT.out.up (HU2.out.trans HU3.out)); rintro e w4 ⟨rfl, HU4⟩)
    | (go_at_call 9; (with_reducible refine (t9 _).mono ?_); rintro e w5 ⟨rfl, HU5⟩))
  go_ret
  exact ⟨rfl, ((HU2.out.trans HU3.out).trans HU4.out).trans HU5.out⟩
end Go.Proofs.Ytjklaemhfhakhaa

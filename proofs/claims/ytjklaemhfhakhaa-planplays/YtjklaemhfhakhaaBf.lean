/- runs. -/
import Derived.Test.YtjklaemhfhakhaaBe
namespace Go.Proofs.Ytjklaemhfhakhaa
open Go.ChangeShapes Go.WideShapes Go.ChangeAt Go.RowKit

theorem enters {f : FuncId} {fn : Func} (hf : Try.prog.funcs[f]? = some fn) (hn : (fn.name == "runtime.NumGoroutine") = false) (hb : fn.body.isSome = true) (args : Array Value) (w : World) : (callFunc f args).run Try.prog w = .ok (.enter f args) w := by
  have h1 : fn.name ≠ "runtime.NumGoroutine" := by simpa using hn
  obtain ⟨c, hc⟩ := Option.isSome_iff_exists.1 hb
  simp [callFunc, hf, h1, hc]
theorem PW.own_lt {w : World} {L : Ly} {n : Nat} {p : Pl} (h : PW w L n p) {b : Nat} (hb : L.Own n b) : b < w.heap.size := by
  rcases hb with rfl | rfl | ⟨i, hi, rfl⟩
  · exact h.lp
  · exact h.lt
  · exact h.lr hi
theorem RI.looks {w : World} {L : Ly} {n : Nat} {p : Pl} {N : Nat} : Looks 48 #[.pointer (some ⟨N, 0, none⟩), .pointer (some ⟨N + 2, 0, none⟩), .pointer (some ⟨N + 1, 0, none⟩)] L n p (RI w L n p N) :=
  ⟨fun h hu => h.upp hu, fun h => h.pw, fun _ h => t48 h⟩
theorem RI.start {w : World} {L : Ly} {n : Nat} {p : Pl} (h : PW w L n p) : RI w L n p w.heap.size 0 (((w.alloc (.cells #[.pointer (some ⟨L.bp, 0, none⟩)] 27)).alloc (.cells #[.int .i64 0, .int .i64 0, .int .i64 0, .int .i64 0, .int .i64 0] 88)).alloc (.cells #[.int .i64 9223372036854775807] 2)) := by
  have s1 : (w.alloc (.cells #[.pointer (some ⟨L.bp, 0, none⟩)] 27)).heap.size = w.heap.size + 1 := by simp
  have s2 : ((w.alloc (.cells #[.pointer (some ⟨L.bp, 0, none⟩)] 27)).alloc (.cells #[.int .i64 0, .int .i64 0, .int .i64 0, .int .i64 0, .int .i64 0] 88)).heap.size = w.heap.size + 2 := by simp
  have hu : Up w (((w.alloc (.cells #[.pointer (some ⟨L.bp, 0, none⟩)] 27)).alloc (.cells #[.int .i64 0, .int .i64 0, .int .i64 0, .int .i64 0, .int .i64 0] 88)).alloc (.cells #[.int .i64 9223372036854775807] 2)) := ((Up.alloc _ _).trans (Up.alloc _ _)).trans (Up.alloc _ _)
  refine ⟨Nat.le_refl _, fun b hb => h.own_lt hb, h.up hu, ?_, ?_, ?_, hu⟩
  · refine cell_up (cell_up ?_ (Up.alloc _ _)) (Up.alloc _ _)
    rw [World.cell?_alloc_at _ _ _ _ rfl]; rfl
  · have e := heap_alloc_last (w.alloc (.cells #[.pointer (some ⟨L.bp, 0, none⟩)] 27)) (.cells #[.int .i64 0, .int .i64 0, .int .i64 0, .int .i64 0, .int .i64 0] 88)
    rw [s1] at e
    exact (JobAt.of (j := noJb) e).up (Up.alloc _ _)
  · have e := heap_alloc_last ((w.alloc (.cells #[.pointer (some ⟨L.bp, 0, none⟩)] 27)).alloc (.cells #[.int .i64 0, .int .i64 0, .int .i64 0, .int .i64 0, .int .i64 0] 88)) (.cells #[.int .i64 9223372036854775807] 2)
    rw [s2] at e
    exact NumAt.of e
theorem load_job {w : World} {g : Nat} {j : Jb} (h : JobAt w g j) : (loadVar 88 ⟨g, 0, none⟩).run Try.prog w = .ok (jv j) w := by
  obtain ⟨c0, c1, c2, c3, c4, -⟩ := h
  obtain ⟨j1, j2, j3, j4, j5⟩ := j
  show _ = Result.ok (Value.agg #[.int .i64 j1, .int .i64 j2, .int .i64 j3, .int .i64 j4, .int .i64 j5]) w
  simp only at c0 c1 c2 c3 c4
  go_simp
set_option maxHeartbeats 1000000 in
theorem t37 {w : World} {L : Ly} {n : Nat} {p : Pl} (h : PW w L n p) (hb : PB n p) (hn : n ≤ 256) : Calls Try.prog 37 #[.pointer (some ⟨L.bp, 0, none⟩)] w (VU w (.tuple #[jv (runN p.J p.now n).1, .int .i64 (runN p.J p.now n).2])) := by
  have H : Hid (PW w L n p) := h
  have HB : Hid (PB n p) := hb
  have HS : Hid (RI w L n p w.heap.size 0 _) := RI.start h
  clear h hb
  go_enter Try.func37, Try.ntmps37
  go_wp2_with (go_at_call 47; (with_reducible refine (t47 RI.looks (enters Try.func48 (by kernel_rfl) (by kernel_rfl)) HB.out hn HS.out).mono ?_); rintro e w1 ⟨rfl, H1⟩)
  generalize hN : w.heap.size = N at *
  obtain ⟨r0, r1, r2, r3, r4, r5⟩ := H1.out.best
  obtain ⟨f0, f1⟩ := H1.out.frm
  generalize hr : runN p.J p.now n = rr at *
  obtain ⟨⟨q1, q2, q3, q4, q5⟩, fr⟩ := rr
  have HR : Hid (runN p.J p.now n = (⟨q1, q2, q3, q4, q5⟩, fr)) := hr
  clear hr
  simp only at f0 r0 r1 r2 r3 r4
  have z0 := r5 0
  have z1 := r5 1
  have z2 := r5 2
  have z3 := r5 3
  have z4 := r5 4
  clear r5
  go_region
  go_wp2_with fail
  have H2 := (RI.put (j := ⟨q1, q2, q3, q4, q5⟩) H1.out HR.out).upp (Up.drew _)
  have k1 := H2.best
  have k2 := H2.frm
  rw [HR.out] at k1 k2
  exact bodyPost_ret (results_st_int Try.results37 _ _ (N + 1) (N + 2) (jv ⟨q1, q2, q3, q4, q5⟩) (.int .i64 fr) rfl rfl (load_job k1) (load_int k2.c0)) rfl ⟨rfl, H2.up⟩
end Go.Proofs.Ytjklaemhfhakhaa
/- ends. -/
namespace Go.Proofs.Ytjklaemhfhakhaa
open Go.ChangeShapes Go.WideShapes Go.ChangeAt Go.RowKit

/-- What ends keeps while it looks. -/
structure EI (w : World) (L : Ly) (n : Nat) (p : Pl) (r : Jb) (to : Int) (N : Nat) (k : Nat) (wr : World) : Prop where
  ge : w.heap.size ≤ N
  own : ∀ b, L.Own n b → b < w.heap.size
  pw : PW wr L n p
  run : JobAt wr N r
  to : NumAt wr (N + 1) (endN p.J r to k)
  up : Up w wr
theorem EI.upp {w : World} {L : Ly} {n : Nat} {p : Pl} {r : Jb} {to : Int} {N k : Nat} {wr w' : World} (h : EI w L n p r to N k wr) (hu : Up wr w') : EI w L n p r to N k w' :=
  ⟨h.ge, h.own, h.pw.up hu, h.run.up hu, h.to.up hu, h.up.trans hu⟩
theorem EI.put {w : World} {L : Ly} {n : Nat} {p : Pl} {r : Jb} {to : Int} {N k : Nat} {wr : World} (h : EI w L n p r to N k wr) {a : Int} {m : Nat} (hr : endN p.J r to m = a) : EI w L n p r to N m (wr.setCell ⟨N + 1, 0, none⟩ (.int .i64 a)) := by
  have hk : Kp (fun b => b ≠ N + 1) wr (wr.setCell ⟨N + 1, 0, none⟩ (.int .i64 a)) := Kp.set (fun b => b ≠ N + 1) wr (g := N + 1) (fun q => q rfl) _
  refine ⟨h.ge, h.own, h.pw.kp hk fun b hb => ?_, h.run.off (by omega), by rw [hr]; exact h.to.put, ?_⟩
  · have := h.own b hb; have := h.ge; omega
  · have k1 : Kp (fun b => b < w.heap.size) w (wr.setCell ⟨N + 1, 0, none⟩ (.int .i64 a)) := (Kp.of_up h.up).trans (hk.mono fun b _ hb => by have := h.ge; omega)
    exact k1.up fun b hb => hb
theorem EI.keep {w : World} {L : Ly} {n : Nat} {p : Pl} {r : Jb} {to : Int} {N k m : Nat} {wr : World} (h : EI w L n p r to N k wr) (hr : endN p.J r to m = endN p.J r to k) : EI w L n p r to N m wr :=
  ⟨h.ge, h.own, h.pw, h.run, by rw [hr]; exact h.to, h.up⟩
set_option maxHeartbeats 1000000 in
theorem t50 {w : World} {L : Ly} {n : Nat} {p : Pl} {r : Jb} {to : Int} {N k : Nat} {wr : World} (h : EI w L n p r to N k wr) : Calls Try.prog 50 #[jv (p.J k), .pointer (some ⟨N, 0, none⟩), .pointer (some ⟨N + 1, 0, none⟩)] wr fun e w' => e = .returned (.tuple #[]) ∧ Hid (EI w L n p r to N (k + 1) w') := by
  have H : Hid (EI w L n p r to N k wr) := h
  generalize hj : p.J k = j at *
  obtain ⟨j1, j2, j3, j4, j5⟩ := j
  have HJ : Hid (p.J k = ⟨j1, j2, j3, j4, j5⟩) := hj
  obtain ⟨t, ht⟩ : ∃ t, endN p.J r to k = t := ⟨_, rfl⟩
  have HT : Hid (endN p.J r to k = t) := ht
  have HR : Hid (JobAt wr N r) := h.run
  have HF : Hid (NumAt wr (N + 1) t) := by have := h.to; rw [ht] at this; exact this
  obtain ⟨b, hb⟩ : ∃ b, ahB (p.J k) r = b := ⟨_, rfl⟩
  have HB : Hid (ahB (p.J k) r = b) := hb
  rw [hj] at hb
  have C : ∀ w, Hid (Calls Try.prog 49 #[.agg #[.int .i64 j1, .int .i64 j2, .int .i64 j3, .int .i64 j4, .int .i64 j5], .agg #[.int .i64 r.task, .int .i64 r.frm, .int .i64 r.due, .int .i64 r.left, .int .i64 r.rank]] w (VU w (.bool b))) := by
    intro w
    have := t49 ⟨j1, j2, j3, j4, j5⟩ r w
    rw [hb] at this
    exact this
  obtain ⟨r1, r2, r3, r4, r5⟩ := r
  obtain ⟨q0, q1, q2, q3, q4, -⟩ := HR.out
  simp only at q0 q1 q2 q3 q4 C
  obtain ⟨c0, c1⟩ := HF.out
  show Calls Try.prog 50 #[.agg #[.int .i64 j1, .int .i64 j2, .int .i64 j3, .int .i64 j4, .int .i64 j5], .pointer (some ⟨N, 0, none⟩), .pointer (some ⟨N + 1, 0, none⟩)] wr _
  have HG : Hid (JobAt (wr.alloc (.cells #[.int .i64 j1, .int .i64 j2, .int .i64 j3, .int .i64 j4, .int .i64 j5] 88)) wr.heap.size ⟨j1, j2, j3, j4, j5⟩) := JobAt.of (heap_alloc_last _ _)
  have HA : Hid (EI w L n p ⟨r1, r2, r3, r4, r5⟩ to N k (wr.alloc (.cells #[.int .i64 j1, .int .i64 j2, .int .i64 j3, .int .i64 j4, .int .i64 j5] 88))) := H.out.upp (Up.alloc _ _)
  have HF2 : Hid (NumAt (wr.alloc (.cells #[.int .i64 j1, .int .i64 j2, .int .i64 j3, .int .i64 j4, .int .i64 j5] 88)) (N + 1) t) := HF.out.up (Up.alloc _ _)
  have l1 := World.block_lt_of_cell? wr _ c0
  have l2 := World.block_lt_of_cell? wr _ q0
  simp only at l1 l2
  clear h hj ht hb
  go_enter Try.func50, Try.ntmps50
  go_wp2_with (go_at_call 49; (with_reducible refine (C _).out.mono ?_); rintro e w3 ⟨rfl, HU3⟩; (have HA3 := HA.out.upp HU3.out); (have HG3 : Hid (JobAt w3 _ ⟨j1, j2, j3, j4, j5⟩) := HG.out.up HU3.out); (have HF3 : Hid (NumAt w3 (N + 1) t) := HF2.out.up HU3.out); (obtain ⟨g0, g1, g2, g3, g4, -⟩ := HG3.out); (obtain ⟨f0, f1⟩ := HF3.out))
  · rename_i hb
    go_end0
    refine ⟨rfl, EI.put HA3 ?_⟩
    show (if _ then _ else _) = _
    rw [if_pos (HB.out.trans hb), HT.out, HJ.out]
    show min t j2 = j2
    omega
  · rename_i hb
    go_end0
    refine ⟨rfl, EI.put HA3 ?_⟩
    show (if _ then _ else _) = _
    rw [if_pos (HB.out.trans hb), HT.out, HJ.out]
    show min t j2 = t
    omega
  · rename_i hb
    go_end0
    refine ⟨rfl, EI.keep HA3 ?_⟩
    show (if _ then _ else _) = _
    rw [if_neg (by rw [HB.out, hb]; exact Bool.false_ne_true)]
theorem EI.looks {w : World} {L : Ly} {n : Nat} {p : Pl} {r : Jb} {to : Int} {N : Nat} : Looks 50 #[.pointer (some ⟨N, 0, none⟩), .pointer (some ⟨N + 1, 0, none⟩)] L n p (EI w L n p r to N) :=
  ⟨fun h hu => h.upp hu, fun h => h.pw, fun _ h => t50 h⟩
theorem EI.start {w : World} {L : Ly} {n : Nat} {p : Pl} (h : PW w L n p) (r : Jb) (to : Int) : EI w L n p r to w.heap.size 0 ((w.alloc (.cells #[.int .i64 r.task, .int .i64 r.frm, .int .i64 r.due, .int .i64 r.left, .int .i64 r.rank] 88)).alloc (.cells #[.int .i64 to] 2)) := by
  have s1 : (w.alloc (.cells #[.int .i64 r.task, .int .i64 r.frm, .int .i64 r.due, .int .i64 r.left, .int .i64 r.rank] 88)).heap.size = w.heap.size + 1 := by simp
  have hu : Up w ((w.alloc (.cells #[.int .i64 r.task, .int .i64 r.frm, .int .i64 r.due, .int .i64 r.left, .int .i64 r.rank] 88)).alloc (.cells #[.int .i64 to] 2)) := (Up.alloc _ _).trans (Up.alloc _ _)
  refine ⟨Nat.le_refl _, fun b hb => h.own_lt hb, h.up hu, ?_, ?_, hu⟩
  · exact (JobAt.of (heap_alloc_last w _)).up (Up.alloc _ _)
  · have e := heap_alloc_last (w.alloc (.cells #[.int .i64 r.task, .int .i64 r.frm, .int .i64 r.due, .int .i64 r.left, .int .i64 r.rank] 88)) (.cells #[.int .i64 to] 2)
    rw [s1] at e
    exact NumAt.of e
set_option maxHeartbeats 1000000 in
theorem t38 {w : World} {L : Ly} {n : Nat} {p : Pl} (h : PW w L n p) (hb : PB n p) (hn : n ≤ 256) (r : Jb) (f : Int) (hf : 0 ≤ f ∧ f ≤ 2305843009213693952) (hl : 0 ≤ r.left ∧ r.left ≤ 2305843009213693952) : Calls Try.prog 38 #[.pointer (some ⟨L.bp, 0, none⟩), jv r, .int .i64 f] w (VU w (.int .i64 (endN p.J r (f + r.left) n))) := by
  have H : Hid (PW w L n p) := h
  have HB : Hid (PB n p) := hb
  have HS : Hid (EI w L n p r (f + r.left) w.heap.size 0 _) := EI.start h r (f + r.left)
  obtain ⟨r1, r2, r3, r4, r5⟩ := r
  simp only at hl
  show Calls Try.prog 38 #[.pointer (some ⟨L.bp, 0, none⟩), .agg #[.int .i64 r1, .int .i64 r2, .int .i64 r3, .int .i64 r4, .int .i64 r5], .int .i64 f] w _
  clear h hb
  go_enter Try.func38, Try.ntmps38
  go_wp2_with (go_at_call 47; (with_reducible refine (t47 EI.looks (enters Try.func50 (by kernel_rfl) (by kernel_rfl)) HB.out hn HS.out).mono ?_); rintro e w1 ⟨rfl, H1⟩; (obtain ⟨c0, c1⟩ := H1.out.to))
  go_ret
  exact ⟨rfl, H1.out.up⟩
end Go.Proofs.Ytjklaemhfhakhaa

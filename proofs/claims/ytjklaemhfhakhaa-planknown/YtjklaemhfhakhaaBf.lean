/- runs. -/
import Derived.Test.YtjklaemhfhakhaaBe
namespace Go.Proofs.Ytjklaemhfhakhaa
open Go.ChangeShapes Go.WideShapes Go.ChangeAt Go.RowKit

theorem enters {f : FuncId} {fn : Func} (hf : Try.prog.funcs[f]? = some fn) (hn : (fn.name == "runtime.NumGoroutine") = false) (hb : fn.body.isSome = true) (args : Array Value) (w : World) : (callFunc f args).run Try.prog w = .ok (.enter f args) w := by
  have h1 : fn.name ≠ "runtime.NumGoroutine" := by simpa using hn
  obtain ⟨c, hc⟩ := Option.isSome_iff_exists.1 hb
  simp [callFunc, hf, h1, hc]
theorem PW.own_lt {w : World} {L : Ly} {n : Nat} {p : Pl} (h : PW w L n p) {b : Nat} (hb : L.Own n b) : b < w.heap.size := by
  rcases hb with rfl | rfl | ⟨i, hi, rfl⟩
  · exact h.lp
  · exact h.lt
  · exact h.lr hi
theorem RI.looks {w : World} {L : Ly} {n : Nat} {p : Pl} {N : Nat} : Looks 48 #[.pointer (some ⟨N, 0, none⟩), .pointer (some ⟨N + 2, 0, none⟩), .pointer (some ⟨N + 1, 0, none⟩)] L n p (RI w L n p N) :=
  ⟨fun h hu => h.upp hu, fun h => h.pw, fun _ h => t48 h⟩
theorem RI.start {w : World} {L : Ly} {n : Nat} {p : Pl} (h : PW w L n p) : RI w L n p w.heap.size 0 (((w.alloc (.cells #[.pointer (some ⟨L.bp, 0, none⟩)] 27)).alloc (.cells #[.int .i64 0, .int .i64 0, .int .i64 0, .int .i64 0, .int .i64 0] 88)).alloc (.cells #[.int .i64 9223372036854775807] 2)) := by
  have s1 : (w.alloc (.cells #[.pointer (some ⟨L.bp, 0, none⟩)] 27)).heap.size = w.heap.size + 1 := by simp
  have s2 : ((w.alloc (.cells #[.pointer (some ⟨L.bp, 0, none⟩)] 27)).alloc (.cells #[.int .i64 0, .int .i64 0, .int .i64 0, .int .i64 0, .int .i64 0] 88)).heap.size = w.heap.size + 2 := by simp
  have hu : Up w (((w.alloc (.cells #[.pointer (some ⟨L.bp, 0, none⟩)] 27)).alloc (.cells #[.int .i64 0, .int .i64 0, .int .i64 0, .int .i64 0, .int .i64 0] 88)).alloc (.cells #[.int .i64 9223372036854775807] 2)) := ((Up.alloc _ _).trans (Up.alloc _ _)).trans (Up.alloc _ _)
  refine ⟨Nat.le_refl _, fun b hb => h.own_lt hb, h.up hu, ?_, ?_, ?_, hu⟩
  · refine cell_up (cell_up ?_ (Up.alloc _ _)) (Up.alloc _ _)
    rw [World.cell?_alloc_at _ _ _ _ rfl]; rfl
  · have e := heap_alloc_last (w.alloc (.cells #[.pointer (some ⟨L.bp, 0, none⟩)] 27)) (.cells #[.int .i64 0, .int .i64 0, .int .i64 0, .int .i64 0, .int .i64 0] 88)
    rw [s1] at e
    exact (JobAt.of (j := noJb) e).up (Up.alloc _ _)
  · have e := heap_alloc_last ((w.alloc (.cells #[.pointer (some ⟨L.bp, 0, none⟩)] 27)).alloc (.cells #[.int .i64 0, .int .i64 0, .int .i64 0, .int .i64 0, .int .i64 0] 88)) (.cells #[.int .i64 9223372036854775807] 2)
    rw [s2] at e
    exact NumAt.of e
theorem load_job {w : World} {g : Nat} {j : Jb} (h : JobAt w g j) : (loadVar 88 ⟨g, 0, none⟩).run Try.prog w = .ok (jv j) w := by
  obtain ⟨c0, c1, c2, c3, c4, -⟩ := h
  obtain ⟨j1, j2, j3, j4, j5⟩ := j
  show _ = Result.ok (Value.agg #[.int .i64 j1, .int .i64 j2, .int .i64 j3, .int .i64 j4, .int .i64 j5]) w
  simp only at c0 c1 c2 c3 c4
  go_simp
set_option maxHeartbeats 1000000 in
theorem t37 {w : World} {L : Ly} {n : Nat} {p : Pl} (h : PW w L n p) (hb : PB n p) (hn : n ≤ 256) : Calls Try.prog 37 #[.pointer (some ⟨L.bp, 0, none⟩)] w (VU w (.tuple #[jv (runN p.J p.now n).1, .int .i64 (runN p.J p.now n).2])) := by
  have H : Hid (PW w L n p) := h
  have HB : Hid (PB n p) := hb
  have HS : Hid (RI w L n p w.heap.size 0 _) := RI.start h
  clear h hb
  go_enter Try.func37, Try.ntmps37
  go_wp2_with (go_at_call 47; (with_reducible refine (t47 RI.looks (enters Try.func48 (by kernel_rfl) (by kernel_rfl)) HB.out hn HS.out).mono ?_); rintro e w1 ⟨rfl, H1⟩)
  generalize hN : w.heap.size = N at *
  obtain ⟨r0, r1, r2, r3, r4, r5⟩ := H1.out.best
  obtain ⟨f0, f1⟩ := H1.out.frm
  generalize hr : runN p.J p.now n = rr at *
  obtain ⟨⟨q1, q2, q3, q4, q5⟩, fr⟩ := rr
  have HR : Hid (runN p.J p.now n = (⟨q1, q2, q3, q4, q5⟩, fr)) := hr
  clear hr
  simp only at f0 r0 r1 r2 r3 r4
  have z0 := r5 0
  have z1 := r5 1
  have z2 := r5 2
  have z3 := r5 3
  have z4 := r5 4
  clear r5
  go_region
  go_wp2_with fail
  have H2 := (RI.put (j := ⟨q1, q2, q3, q4, q5⟩) H1.out HR.out).upp (Up.drew _)
  have k1 := H2.best
  have k2 := H2.frm
  rw [HR.out] at k1 k2
  exact bodyPost_ret (results_st_int Try.results37 _ _ (N + 1) (N + 2) (jv ⟨q1, q2, q3, q4, q5⟩) (.int .i64 fr) rfl rfl (load_job k1) (load_int k2.c0)) rfl ⟨rfl, H2.up⟩
end Go.Proofs.Ytjklaemhfhakhaa

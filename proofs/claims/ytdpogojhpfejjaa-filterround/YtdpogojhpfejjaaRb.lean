/- A line: what it tells of the last sample. -/
import Derived.Test.YtdpogojhpfejjaaRa
namespace Go.Proofs.Ytdpogojhpfejjaa
open Go.ChangeShapes Go.WideShapes Go.ChangeAt Go.RowKit Go.Fl Ieee
attribute [local go_sem] run_store_float run_store_c isSome_set call32 call31 run_neg fold_eq fold_ne fold_lt fold_gt abs_eq

theorem eg21 (args : Array Value) (w : World) : (callFunc 21 args).run Try.prog w = .ok (.enter 21 args) w := enters Try.func21 (by kernel_rfl) (by kernel_rfl) _ _
theorem t21 (bc bn gc N kc j i : Nat) (x : Nat → Nat × Nat) (w : World) (h1 : w.cell? ⟨bc, 0, none⟩ = some (.slice (some ⟨gc, 0, none⟩) (N + 1) kc)) (h2 : w.cell? ⟨bn, 0, none⟩ = some (.int .i64 N)) (hR : RD w gc 0 (N + 1) x) (hj : i + j = N) (hN : N ≤ 100000) :
    Calls Try.prog 21 #[.int .i64 j, .pointer (some ⟨bc, 0, none⟩), .pointer (some ⟨bn, 0, none⟩)] w (CR w (ab (x i).1) (ab (x i).2)) := by
  obtain ⟨u, v, hx, hc⟩ : ∃ u v, x i = (u, v) ∧ w.cell? ⟨gc, i, none⟩ = some (.complex .f64 u v) := by
    have := hR i (by omega)
    rw [Nat.zero_add] at this
    exact ⟨_, _, rfl, this⟩
  rw [hx]
  clear hx hR
  have e1 : (N : Int) - (j : Int) = (i : Int) := by omega
  have e2 : (i : Int) < (N : Int) + 1 := by omega
  go_enter Try.func21, Try.ntmps21
  go_wp2
  go_ret
  exact CR.mk rfl rfl (Below.refl _ _)
/-- What a line tells of the sample at N. -/
def lineF (T : Nat) (tp x : Nat → Nat × Nat) (N : Nat) : C2 := (sumN (wgR tp (fun j => ab (x (N - j)).1) (fun j => ab (x (N - j)).2)) (min T (N + 1)), sumN (wgI tp (fun j => ab (x (N - j)).1) (fun j => ab (x (N - j)).2)) (min T (N + 1)))
theorem w16 {w w1 : World} {bc bn gc gt N M kc ct T : Nat} {x tp : Nat → Nat × Nat} (h1 : w1.cell? ⟨bc, 0, none⟩ = some (.slice (some ⟨gc, 0, none⟩) (N + 1) kc)) (h2 : w1.cell? ⟨bn, 0, none⟩ = some (.int .i64 N)) (HX : Hid (RD w gc 0 (N + 1) x)) (HT : Hid (RD w gt 0 T tp)) (HU : Hid (Up w w1)) (hM : M + 1 = min T (N + 1)) (hN : N ≤ 100000) (hT : T ≤ 256) (hct : T ≤ ct) (h2T : 2 ≤ T) :
    Calls Try.prog 16 #[.slice (some ⟨gt, 0, none⟩) (M + 1) ct, .func (.func 21) #[] #[.pointer (some ⟨bc, 0, none⟩), .pointer (some ⟨bn, 0, none⟩)]] w1 (CR w1 (lineF T tp x N).1 (lineF T tp x N).2) := by
  unfold lineF
  rw [← hM]
  refine t16 21 gt M ct _ tp _ _ w1 (by omega) (by omega) (by omega) (fun j hj => HT.out.up HU.out j (by omega)) eg21 fun j hj w2 hu => ?_
  exact t21 bc bn gc N kc j (N - j) x w2 (cell_up h1 hu) (cell_up h2 hu) (HX.out.up (HU.out.trans hu)) (by omega) hN
theorem two_box (w : World) (u v : Value) (s t : TypeId) : ((w.alloc (.cells #[u] s)).alloc (.cells #[v] t)).cell? ⟨w.heap.size, 0, none⟩ = some u ∧ ((w.alloc (.cells #[u] s)).alloc (.cells #[v] t)).cell? ⟨w.heap.size + 1, 0, none⟩ = some v := by
  constructor
  · have h : ((w.alloc (.cells #[u] s)).alloc (.cells #[v] t)).heap[w.heap.size]? = some (.cells #[u] s) := by
      rw [Below.heap_alloc (w.alloc (.cells #[u] s)) _ w.heap.size (by simp)]; exact heap_alloc_last _ _
    rw [cell_of_row _ _ _ _ _ _ h]; rfl
  · have h : ((w.alloc (.cells #[u] s)).alloc (.cells #[v] t)).heap[w.heap.size + 1]? = some (.cells #[v] t) := by
      have := heap_alloc_last (w.alloc (.cells #[u] s)) (.cells #[v] t)
      simpa using this
    rw [cell_of_row _ _ _ _ _ _ h]; rfl
set_option maxHeartbeats 1000000 in
theorem t14 (b gt ct T gc kc N M : Nat) (tp x : Nat → Nat × Nat) (w : World) (h0 : w.cell? ⟨b, 0, none⟩ = some (.slice (some ⟨gt, 0, none⟩) T ct)) (hT : RD w gt 0 T tp) (hX : RD w gc 0 (N + 1) x) (hM : M + 1 = min T (N + 1)) (hN : N ≤ 100000) (hT1 : T ≤ 256) (hct : T ≤ ct) (h2T : 2 ≤ T) :
    Calls Try.prog 14 #[.pointer (some ⟨b, 0, none⟩), .slice (some ⟨gc, 0, none⟩) (N + 1) kc] w (CR w (lineF T tp x N).1 (lineF T tp x N).2) := by
  have HT : Hid (RD w gt 0 T tp) := hT
  have HX : Hid (RD w gc 0 (N + 1) x) := hX
  have HM : Hid (M + 1 = min T (N + 1)) := hM
  have lb : b < w.heap.size := World.block_lt_of_cell? w _ h0
  clear hT hX
  have hmin : (if (N : Int) + 1 < (T : Int) then (N : Int) + 1 else (T : Int)) = (M : Int) + 1 := by split <;> omega
  have e0 : (0 : Int) ≤ (M : Int) + 1 := by omega
  have e1 : (M : Int) + 1 ≤ (ct : Int) := by omega
  clear hM
  go_enter Try.func14, Try.ntmps14
  go_wp2_with fail
  obtain ⟨q1, q2⟩ := two_box w (.slice (some ⟨gc, 0, none⟩) (N + 1) kc) (.int .i64 N) 27 3
  have HU : Hid (Up w ((w.alloc (.cells #[.slice (some ⟨gc, 0, none⟩) (N + 1) kc] 27)).alloc (.cells #[.int .i64 N] 3))) := (Up.alloc _ _).trans (Up.alloc _ _)
  have q0 := cell_up h0 HU.out
  generalize hw1 : (w.alloc (.cells #[.slice (some ⟨gc, 0, none⟩) (N + 1) kc] 27)).alloc (.cells #[.int .i64 N] 3) = w1 at *
  generalize hs1 : w.heap.size = s1 at *
  generalize hs2 : s1 + 1 = s2 at *
  clear hw1 hs1 hs2 h0 lb
  have HU2 : Hid (Up w w1.drew) := HU.out.trans (Up.drew _)
  go_region_held3 (fun W => W.cell? ⟨b, 0, none⟩ = some (.slice (some ⟨gt, 0, none⟩) T ct) ∧ W.cell? ⟨s1, 0, none⟩ = some (.slice (some ⟨gc, 0, none⟩) (N + 1) kc) ∧ W.cell? ⟨s2, 0, none⟩ = some (.int .i64 N)) (first | go_keep | exact ⟨cell_up q0 ((Up.drew _).trans h3), cell_up q1 ((Up.drew _).trans h3), cell_up q2 ((Up.drew _).trans h3)⟩) (first
    | (go_at_call 16; (with_reducible refine (w16 (cell_up q1 (Up.drew _)) (cell_up q2 (Up.drew _)) HX HT HU2 HM.out hN hT1 hct h2T).mono ?_); rintro e w2 ⟨r, s, rfl, hr, hs, h3⟩))
  all_goals (try go_wp2)
  all_goals go_ret
  all_goals exact CR.mk hr.out hs.out (HU2.out.trans h3)
end Go.Proofs.Ytdpogojhpfejjaa

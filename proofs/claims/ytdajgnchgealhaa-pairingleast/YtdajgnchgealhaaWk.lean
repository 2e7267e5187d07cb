/- The law's best; PairingLeast. -/
import Derived.Test.YtdajgnchgealhaaWj
namespace Go.Proofs.Ytdajgnchgealhaa
open Go.ChangeShapes Go.WideShapes Go.ChangeAt Go.RowKit
attribute [local go_sem] isSome_set

theorem info4' : (Try.prog.info? 4).map (fun i => (i.zero, i.size, i.bytes)) = some (some (.bool false), 1, 1) := by kernel_rfl
theorem make40' (n : Nat) (hn : n ≤ 1000000) (w : World) : (Instr.makeSlice 40 (.int .i64 n) (.int .i64 n)).run Try.prog w = .ok (.slice (some ⟨w.heap.size, 0, none⟩) n n) (w.alloc (.cells (madeCells #[.bool false] n) 4)) :=
  run_make_row' 40 4 (.bool false) 1 (by kernel_rfl) info4' rfl .i64 .i64 n (by omega) (by omega) w
/-- What best leaves. -/
def BestR (w0 : World) (p : Option Addr) (cap N M : Nat) (R : Nat → Nat) (T : Nat → Nat → Int) (wh : Bool) (e : Ending) (w' : World) : Prop :=
  ∃ (L : BL) (us : Nat → Bool) (mt : Nat → Int) (fd : Bool) (f : Nat → Int), e = .returned (.pointer (some ⟨L.s, 0, none⟩)) ∧ Hid (BS w0 w' p cap N M T L us mt fd f) ∧ Hid (Adv N R T wh (fun _ => True) false fd (fun _ => 0) f)
theorem BS.start {w : World} {b o cap N M : Nat} (T : Nat → Nat → Int) : BS w (((w.alloc (.cells (madeCells #[.int .i64 0] N) 3)).alloc (.cells #[.slice (some ⟨b, o, none⟩) N cap, .slice (some ⟨w.heap.size + 1 + 1, 0, none⟩) M M, .slice (some ⟨w.heap.size, 0, none⟩) N N, .bool false, .int .i64 0, .int .i64 0, .slice none 0 0] 42)).alloc (.cells (madeCells #[.bool false] M) 4)) (some ⟨b, o, none⟩) cap N M T ⟨w.heap.size + 1, w.heap.size + 1 + 1, w.heap.size⟩ (fun _ => false) (fun _ => 0) false (fun _ => 0) := by
  have e1 := sz1 w (.cells (madeCells #[.int .i64 0] N) 3)
  have e2 := sz1 (w.alloc (.cells (madeCells #[.int .i64 0] N) 3)) (.cells #[.slice (some ⟨b, o, none⟩) N cap, .slice (some ⟨w.heap.size + 1 + 1, 0, none⟩) M M, .slice (some ⟨w.heap.size, 0, none⟩) N N, .bool false, .int .i64 0, .int .i64 0, .slice none 0 0] 42)
  have e3 := sz1 ((w.alloc (.cells (madeCells #[.int .i64 0] N) 3)).alloc (.cells #[.slice (some ⟨b, o, none⟩) N cap, .slice (some ⟨w.heap.size + 1 + 1, 0, none⟩) M M, .slice (some ⟨w.heap.size, 0, none⟩) N N, .bool false, .int .i64 0, .int .i64 0, .slice none 0 0] 42)) (.cells (madeCells #[.bool false] M) 4)
  have hb : ∀ k x, (#[.slice (some ⟨b, o, none⟩) N cap, .slice (some ⟨w.heap.size + 1 + 1, 0, none⟩) M M, .slice (some ⟨w.heap.size, 0, none⟩) N N, .bool false, .int .i64 0, .int .i64 0, .slice none 0 0] : Array Value)[k]? = some x → (((w.alloc (.cells (madeCells #[.int .i64 0] N) 3)).alloc (.cells #[.slice (some ⟨b, o, none⟩) N cap, .slice (some ⟨w.heap.size + 1 + 1, 0, none⟩) M M, .slice (some ⟨w.heap.size, 0, none⟩) N N, .bool false, .int .i64 0, .int .i64 0, .slice none 0 0] 42)).alloc (.cells (madeCells #[.bool false] M) 4)).cell? ⟨w.heap.size + 1, k, none⟩ = some x := fun k x hx => by
    refine cell_up (w := ((w.alloc (.cells (madeCells #[.int .i64 0] N) 3)).alloc (.cells #[.slice (some ⟨b, o, none⟩) N cap, .slice (some ⟨w.heap.size + 1 + 1, 0, none⟩) M M, .slice (some ⟨w.heap.size, 0, none⟩) N N, .bool false, .int .i64 0, .int .i64 0, .slice none 0 0] 42))) ?_ (Up.alloc _ _)
    rw [World.cell?_alloc_at _ _ _ _ e1]
    exact hx
  have hu : Up w (((w.alloc (.cells (madeCells #[.int .i64 0] N) 3)).alloc (.cells #[.slice (some ⟨b, o, none⟩) N cap, .slice (some ⟨w.heap.size + 1 + 1, 0, none⟩) M M, .slice (some ⟨w.heap.size, 0, none⟩) N N, .bool false, .int .i64 0, .int .i64 0, .slice none 0 0] 42)).alloc (.cells (madeCells #[.bool false] M) 4)) := (Up.alloc _ _).trans ((Up.alloc _ _).trans (Up.alloc _ _))
  have f0 : ∀ k, (w.alloc (.cells (madeCells #[.int .i64 0] N) 3)).frozen? ⟨w.heap.size, k, none⟩ = false := fun k => World.frozen?_alloc_at _ _ _ _ rfl
  have hu2 : Up (w.alloc (.cells (madeCells #[.int .i64 0] N) 3)) (((w.alloc (.cells (madeCells #[.int .i64 0] N) 3)).alloc (.cells #[.slice (some ⟨b, o, none⟩) N cap, .slice (some ⟨w.heap.size + 1 + 1, 0, none⟩) M M, .slice (some ⟨w.heap.size, 0, none⟩) N N, .bool false, .int .i64 0, .int .i64 0, .slice none 0 0] 42)).alloc (.cells (madeCells #[.bool false] M) 4)) := (Up.alloc _ _).trans (Up.alloc _ _)
  refine ⟨⟨by show w.heap.size ≤ w.heap.size + 1; omega, by show w.heap.size ≤ w.heap.size + 1 + 1; omega, Nat.le_refl _⟩, ⟨by show w.heap.size + 1 ≠ w.heap.size + 1 + 1; omega, by show w.heap.size + 1 ≠ w.heap.size; omega, by show w.heap.size + 1 + 1 ≠ w.heap.size; omega⟩, hb 0 _ rfl, hb 1 _ rfl, hb 2 _ rfl, hb 3 _ rfl, ⟨0, hb 4 _ rfl, fun e => absurd e (by decide)⟩, ⟨0, hb 5 _ rfl, fun e => absurd e (by decide)⟩, ⟨none, 0, 0, hb 6 _ rfl, fun e => absurd e (by decide)⟩, fun j hj => ?_, fun i hi => ?_, fun k => ⟨?_, ?_, ?_⟩, ?_, hu⟩
  · rw [World.cell?_alloc_at _ _ _ _ (by show w.heap.size + 1 + 1 = _; rw [← e2, ← e1])]
    exact made_at _ hj
  · refine cell_up (w := w.alloc (.cells (madeCells #[.int .i64 0] N) 3)) ?_ hu2
    rw [World.cell?_alloc_at _ _ _ _ rfl]
    exact made_at _ hi
  · rw [World.frozen?_of_block ((Up.alloc ((w.alloc (.cells (madeCells #[.int .i64 0] N) 3)).alloc (.cells #[.slice (some ⟨b, o, none⟩) N cap, .slice (some ⟨w.heap.size + 1 + 1, 0, none⟩) M M, .slice (some ⟨w.heap.size, 0, none⟩) N N, .bool false, .int .i64 0, .int .i64 0, .slice none 0 0] 42)) (.cells (madeCells #[.bool false] M) 4)).block (w.heap.size + 1) (by rw [← e2, ← e1]; omega))]
    exact World.frozen?_alloc_at _ _ _ _ e1
  · exact World.frozen?_alloc_at _ _ _ _ (by show w.heap.size + 1 + 1 = _; rw [← e2, ← e1])
  · rw [World.frozen?_of_block (hu2.block w.heap.size (by rw [← e1]; omega))]
    exact f0 k
  · show w.heap.size + 1 + 1 < _
    rw [← e3, ← e2, ← e1]; omega
set_option maxRecDepth 20000 in
set_option maxHeartbeats 2000000 in
theorem t20 {w : World} {p : Option Addr} {cap N M : Nat} {R : Nat → Nat} {T : Nat → Nat → Int} {wh : Bool} (hT : TV w p N R T) (hg : Good N R T) (hN : 0 < N) (hN5 : N ≤ 5) (hM5 : M ≤ 5) (hR : ∀ i, i < N → R i = M) : Calls Try.prog 20 #[.slice p N cap, .bool wh] w (BestR w p cap N M R T wh) := by
  have m1 := make23 N (by omega)
  have m2 := make40' M (by omega)
  have hN' : (0 : Int) < N := by omega
  obtain ⟨b, o, q, cq, rfl, r0, -⟩ := hT 0 hN
  rw [hR 0 hN, Nat.add_zero] at r0
  have HT : Hid (TV w (some ⟨b, o, none⟩) N R T) := hT
  have HG : Hid (Good N R T) := hg
  have HR : Hid (∀ i, i < N → R i = M) := hR
  have r1 : ((w.alloc (.cells (madeCells #[.int .i64 0] N) 3)).alloc (.cells #[.slice (some ⟨b, o, none⟩) N cap, .slice none 0 0, .slice (some ⟨w.heap.size, 0, none⟩) N N, .bool false, .int .i64 0, .int .i64 0, .slice none 0 0] 42)).cell? ⟨b, o, none⟩ = some (.slice q M cq) := cell_up r0 ((Up.alloc _ _).trans (Up.alloc _ _))
  have HB : Hid (BS w (((w.alloc (.cells (madeCells #[.int .i64 0] N) 3)).alloc (.cells #[.slice (some ⟨b, o, none⟩) N cap, .slice (some ⟨w.heap.size + 1 + 1, 0, none⟩) M M, .slice (some ⟨w.heap.size, 0, none⟩) N N, .bool false, .int .i64 0, .int .i64 0, .slice none 0 0] 42)).alloc (.cells (madeCells #[.bool false] M) 4)) (some ⟨b, o, none⟩) cap N M T ⟨w.heap.size + 1, w.heap.size + 1 + 1, w.heap.size⟩ (fun _ => false) (fun _ => 0) false (fun _ => 0)) := BS.start T
  have C29 : Hid (Calls Try.prog 29 #[.pointer (some ⟨w.heap.size + 1, 0, none⟩), .int .i64 0, .int .i64 0, .int .i64 0, .bool wh] (((w.alloc (.cells (madeCells #[.int .i64 0] N) 3)).alloc (.cells #[.slice (some ⟨b, o, none⟩) N cap, .slice (some ⟨w.heap.size + 1 + 1, 0, none⟩) M M, .slice (some ⟨w.heap.size, 0, none⟩) N N, .bool false, .int .i64 0, .int .i64 0, .slice none 0 0] 42)).alloc (.cells (madeCells #[.bool false] M) 4)) (TryR w (some ⟨b, o, none⟩) cap N M R T wh ⟨w.heap.size + 1, w.heap.size + 1 + 1, w.heap.size⟩ 0 (fun _ => false) (fun _ => 0) false (fun _ => 0))) := t29 (wh := wh) HT.out HG.out hN hN5 hM5 HR.out N 0 (by omega) (by omega) _ _ _ _ _ HB.out ⟨⟨fun i hi => by omega, fun a b ha => by omega⟩, fun j _ => ⟨fun e => absurd e (by decide), fun ⟨i', h, _⟩ => by omega⟩, fun _ i' h => by omega⟩ (fun e => absurd e (by decide))
  clear hT hg hR
  go_enter Try.func20, Try.ntmps20
  go_wp2_with (first | (go_at_call 29; (with_reducible refine C29.out.mono ?_); rintro e w2 ⟨m2, f2, ff2, rfl, HB3, HA3⟩))
  go_ret
  exact ⟨_, _, m2, f2, ff2, rfl, HB3, HA3.out.2.mono (fun g _ _ i' h => by omega)⟩
end Go.Proofs.Ytdajgnchgealhaa

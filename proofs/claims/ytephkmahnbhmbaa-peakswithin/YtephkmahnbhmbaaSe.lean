/- Centre: the strongest. -/
import Derived.Test.YtephkmahnbhmbaaSd
import Derived.Test.YtephkmahnbhmbaaQd
namespace Go.Proofs.Ytephkmahnbhmbaa
open Go.ChangeShapes Go.WideShapes Go.ChangeAt Go.RowKit Go.Fl Go.Sort
attribute [local go_sem] run_store_float call52 run_neg fold_eq fold_ne fold_lt fold_gt abs_eq
set_option maxRecDepth 20000
/-- The place of the strongest of the first i + 1. -/
def topF (d : Array Spt) : Nat → Nat
  | 0 => 0
  | i + 1 => if abvF (ab (d[i + 1]!).2.2) (ab (d[topF d i]!).2.2) then i + 1 else topF d i
theorem topF_le (d : Array Spt) : ∀ i, topF d i ≤ i
  | 0 => Nat.le_refl _
  | i + 1 => by
    have := topF_le d i
    unfold topF
    split <;> omega
def row3 (s : Spt) : Obj := .cells #[.int .i64 s.1, .int .i64 s.2.1, .float .f64 s.2.2] 29 (0, 0)
structure TopI (w : World) (R T : Nat) (s : Spt) (wr : World) : Prop where
  up : Up w wr
  tb : wr.heap[T]? = some (row3 s)
  rb : wr.heap[R]? = some (row3 (0, 0, 0))
  lo : w.heap.size ≤ T
  ne : R ≠ T
theorem TopI.up' {w : World} {R T : Nat} {s : Spt} {wr W : World} (h : TopI w R T s wr) (hu : Up wr W) : TopI w R T s W :=
  ⟨h.up.trans hu, by rw [RowKit.Below.block hu _ (Array.getElem?_eq_some_iff.1 h.tb).1]; exact h.tb, by rw [RowKit.Below.block hu _ (Array.getElem?_eq_some_iff.1 h.rb).1]; exact h.rb, h.lo, h.ne⟩
theorem TopI.cells {w : World} {R T : Nat} {s : Spt} {wr : World} (h : TopI w R T s wr) : (wr.cell? ⟨T, 0, none⟩ = some (.int .i64 s.1) ∧ wr.cell? ⟨T, 1, none⟩ = some (.int .i64 s.2.1) ∧ wr.cell? ⟨T, 2, none⟩ = some (.float .f64 s.2.2)) ∧ wr.frozen? ⟨T, 0, none⟩ = false ∧ wr.frozen? ⟨T, 1, none⟩ = false ∧ wr.frozen? ⟨T, 2, none⟩ = false :=
  ⟨⟨by rw [cell_of_row _ _ _ _ _ _ h.tb]; rfl, by rw [cell_of_row _ _ _ _ _ _ h.tb]; rfl, by rw [cell_of_row _ _ _ _ _ _ h.tb]; rfl⟩, by simp [World.frozen?, h.tb, row3], by simp [World.frozen?, h.tb, row3], by simp [World.frozen?, h.tb, row3]⟩
theorem TopI.put {w : World} {R T : Nat} {s : Spt} {wr : World} (h : TopI w R T s wr) (t : Spt) : TopI w R T t (wr.setCells T 0 (spC t)) := by
  have hk : Kp (fun k => k ≠ T) wr (wr.setCells T 0 (spC t)) := kp_setCells (by simp) _ _ _
  refine ⟨h.up.trans2 hk (fun k hk => by have := h.lo; omega), row_setCells (spC t) 0 wr _ h.tb, ?_, h.lo, h.ne⟩
  rw [hk.block R h.ne (Array.getElem?_eq_some_iff.1 h.rb).1]; exact h.rb
theorem TopI.res {w : World} {R T : Nat} {s : Spt} {wr : World} (h : TopI w R T s wr) (hR : w.heap.size ≤ R) : (wr.setCells R 0 (spC s)).heap[R]? = some (row3 s) ∧ Up w (wr.setCells R 0 (spC s)) := by
  have hk : Kp (fun k => k ≠ R) wr (wr.setCells R 0 (spC s)) := kp_setCells (by simp) _ _ _
  exact ⟨row_setCells (spC s) 0 wr _ h.rb, h.up.trans2 hk (fun k hk => by omega)⟩
theorem TopI.rcells {w : World} {R T : Nat} {s : Spt} {wr : World} (h : TopI w R T s wr) : (wr.cell? ⟨R, 0, none⟩ = some (.int .i64 0) ∧ wr.cell? ⟨R, 1, none⟩ = some (.int .i64 0) ∧ wr.cell? ⟨R, 2, none⟩ = some (.float .f64 0)) ∧ wr.frozen? ⟨R, 0, none⟩ = false ∧ wr.frozen? ⟨R, 1, none⟩ = false ∧ wr.frozen? ⟨R, 2, none⟩ = false :=
  ⟨⟨by rw [cell_of_row _ _ _ _ _ _ h.rb]; rfl, by rw [cell_of_row _ _ _ _ _ _ h.rb]; rfl, by rw [cell_of_row _ _ _ _ _ _ h.rb]; rfl⟩, by simp [World.frozen?, h.rb, row3], by simp [World.frozen?, h.rb, row3], by simp [World.frozen?, h.rb, row3]⟩
set_option maxHeartbeats 2000000 in
theorem t40 {w : World} {p : Option Addr} {n cap : Nat} {d : Array Spt} (h : SpV w p n cap d) (h0 : 0 < n) :
    Calls Try.prog 40 #[.slice p n cap] w fun e w' => e = .returned (sv3 d[topF d (n - 1)]!) ∧ Hid (Up w w') := by
  have hf := h.few
  have hc := h.cap
  obtain ⟨b, o, rfl, hr⟩ := h.rd h0
  have HR : Hid _ := hr
  obtain ⟨c0, c1, c2⟩ := hr 0 h0
  clear h hr
  obtain ⟨m, rfl⟩ : ∃ m, n = m + 1 := ⟨n - 1, by omega⟩
  have e1 : ((m + 1 : Nat) : Int) = (m : Int) + 1 := by omega
  obtain ⟨s, hs⟩ : ∃ s, d[0]! = s := ⟨_, rfl⟩
  rw [hs] at c0 c1 c2
  have HS : Hid (d[0]! = s) := hs
  obtain ⟨s1, s2, s3⟩ := s
  simp only [Nat.zero_mul, Nat.add_zero] at c0 c1 c2
  clear hs
  have q1 : (0 : Int) < (m : Int) + 1 := by omega
  have q2 : (1 : Int) ≤ (m : Int) + 1 := by omega
  have q3 : (m : Int) + 1 ≤ (cap : Int) := by omega
  have q4 : m + 1 ≤ cap := hc
  have q5 : m + 1 - 1 = m := by omega
  have d0 := cell_up c0 (Up.alloc w (row3 (0, 0, 0)))
  have d1 := cell_up c1 (Up.alloc w (row3 (0, 0, 0)))
  have d2 := cell_up c2 (Up.alloc w (row3 (0, 0, 0)))
  unfold row3 at d0 d1 d2
  simp only at d0 d1 d2
  have HT0 : Hid (TopI w w.heap.size (w.heap.size + 1) d[topF d 0]! ((w.alloc (.cells #[.int .i64 0, .int .i64 0, .float .f64 0] 29)).alloc (.cells #[.int .i64 s1, .int .i64 s2, .float .f64 s3] 29))) := by
    obtain ⟨k1, k2⟩ := two_boxes w #[.int .i64 0, .int .i64 0, .float .f64 0] #[.int .i64 s1, .int .i64 s2, .float .f64 s3] 29 29
    refine ⟨(Up.alloc _ _).trans (Up.alloc _ _), ?_, k1, by omega, by omega⟩
    show _ = some (row3 d[0]!)
    rw [HS.out]; exact k2
  have FIN : Hid (∀ wr s, TopI w w.heap.size (w.heap.size + 1) s wr → ∀ tmps : Array Value, tmps.getD 2 undef = .pointer (some ⟨w.heap.size, 0, none⟩) → s = d[topF d m]! → bodyPost Try.prog Try.f40 (fun e w' => e = .returned (sv3 d[topF d m]!) ∧ Hid (Up w w')) Exit.ret { tmps := tmps, defers := [] } (wr.setCells w.heap.size 0 (spC s))) := by
    intro wr s hT tmps ht hs
    obtain ⟨r1, r2⟩ := hT.res (Nat.le_refl _)
    exact bodyPost_ret (results_cell_row Try.results40 _ _ _ 29 #[.int .i64 s.1, .int .i64 s.2.1, .float .f64 s.2.2] (0, 0) _ ht r1 Try.underlying29 rfl (by kernel_rfl)) rfl ⟨by rw [← hs]; rfl, r2⟩
  by_cases hm0 : m = 0
  · subst hm0
    go_enter Try.func40, Try.ntmps40
    go_wp2
    all_goals
      go_loopw [5, 12] (fun _ vi wr => vi = .int .i64 0 ∧ wr = ((w.alloc (.cells #[.int .i64 0, .int .i64 0, .float .f64 0] 29)).alloc (.cells #[.int .i64 s1, .int .i64 s2, .float .f64 s3] 29))) (fun _ vi _ => 0)
      case atStart => exact ⟨rfl, rfl⟩
      case round =>
        obtain ⟨rfl, hw⟩ := hrel
        subst hw
        obtain ⟨⟨y0, y1, y2⟩, -⟩ := HT0.out.cells
        obtain ⟨⟨v0, v1, v2⟩, z0, z1, z2⟩ := HT0.out.rcells
        have hs0 : d[topF d 0]! = (s1, s2, s3) := HS.out
        rw [hs0] at y0 y1 y2
        have HT1 : Hid (TopI w w.heap.size (w.heap.size + 1) (s1, s2, s3) ((w.alloc (.cells #[.int .i64 0, .int .i64 0, .float .f64 0] 29)).alloc (.cells #[.int .i64 s1, .int .i64 s2, .float .f64 s3] 29))) := hs0 ▸ HT0.out
        clear d0 d1 d2
        generalize (w.alloc (.cells #[.int .i64 0, .int .i64 0, .float .f64 0] 29)).alloc (.cells #[.int .i64 s1, .int .i64 s2, .float .f64 s3] 29) = W at *
        simp only at y0 y1 y2
        go_wp2
        refine FIN.out W (s1, s2, s3) HT1.out _ ?_ hs0.symm
        rfl
  · have hcc : ¬ cap = 1 := by omega
    have hcc2 : ¬ cap ≤ 1 := by omega
    go_enter Try.func40, Try.ntmps40
    go_wp2
    clear hm0 c0 c1 c2 d0 d1 d2
    generalize (w.alloc (.cells #[.int .i64 0, .int .i64 0, .float .f64 0] 29)).alloc (.cells #[.int .i64 s1, .int .i64 s2, .float .f64 s3] 29) = W at *
    go_loopw [5, 12] (fun _ vi wr => ∃ i : Nat, i ≤ m ∧ vi = .int .i64 i ∧ Hid (TopI w w.heap.size (w.heap.size + 1) d[topF d i]! wr)) (fun _ vi _ => m - (intOf vi).toNat)
    case atStart => exact ⟨0, by omega, rfl, HT0⟩
    case round =>
      clear HT0
      obtain ⟨i, hi, rfl, HT⟩ := hrel
      rename World => wr
      by_cases hlt : i < m
      · obtain ⟨k0, k1, k2⟩ := HR.out (i + 1) (by omega)
        obtain ⟨t, ht⟩ : ∃ t, d[i + 1]! = t := ⟨_, rfl⟩
        rw [ht] at k0 k1 k2
        have HTT : Hid (d[i + 1]! = t) := ht
        clear ht
        obtain ⟨t1, t2, t3⟩ := t
        obtain ⟨u, hu⟩ : ∃ u, d[topF d i]! = u := ⟨_, rfl⟩
        have HUU : Hid (d[topF d i]! = u) := hu
        rw [hu] at HT
        clear hu
        have j0 := cell_up ((show o + (i + 1) * 3 = o + 3 + i * 3 by omega) ▸ k0) HT.out.up
        have j1 := cell_up ((show o + (i + 1) * 3 = o + 3 + i * 3 by omega) ▸ k1) HT.out.up
        have j2 := cell_up ((show o + (i + 1) * 3 = o + 3 + i * 3 by omega) ▸ k2) HT.out.up
        simp only at j0 j1 j2
        clear k0 k1 k2
        have y1 : (i : Int) < (m : Int) := by omega
        have HT1 : Hid (TopI w w.heap.size (w.heap.size + 1) u (wr.alloc (.cells #[.int .i64 t1, .int .i64 t2, .float .f64 t3] 29))) := HT.out.up' (Up.alloc _ _)
        obtain ⟨⟨x0, x1, x2⟩, f0, f1, f2⟩ := HT1.out.cells
        obtain ⟨u1, u2, u3⟩ := u
        simp only at x0 x1 x2
        obtain ⟨b0, b1, b3⟩ := three_box wr (.int .i64 t1) (.int .i64 t2) (.float .f64 t3) 29
        have HST : Hid (d[topF d (i + 1)]! = if abvF (ab t3) (ab u3) = true then (t1, t2, t3) else (u1, u2, u3)) := by
          show _ = _
          rw [topF, HUU.out, HTT.out]
          split
          · exact HTT.out
          · exact HUU.out
        clear HT
        go_wp2_with (go_at_call 66; (with_reducible refine (t66 _ _ _).mono ?_); rintro e w' ⟨rfl, hw⟩; subst w')
        · have HT2 := HT1.out.put (t1, t2, t3)
          go_roundw
          case rel => exact ⟨i + 1, by omega, by go_num, by show TopI _ _ _ _ _; rw [HST.out, if_pos (by assumption)]; exact HT2⟩
          case measure => simp [intOf]; omega
        · go_roundw
          case rel => exact ⟨i + 1, by omega, by go_num, by show TopI _ _ _ _ _; rw [HST.out, if_neg (Bool.not_eq_true _ ▸ (by assumption))]; exact HT1.out⟩
          case measure => simp [intOf]; omega
      · obtain rfl : i = m := by omega
        obtain ⟨u, hu⟩ : ∃ u, d[topF d i]! = u := ⟨_, rfl⟩
        have HUU : Hid (d[topF d i]! = u) := hu
        have HT1 : Hid (TopI w w.heap.size (w.heap.size + 1) u wr) := hu ▸ HT.out
        clear hu HT
        obtain ⟨⟨x0, x1, x2⟩, -⟩ := HT1.out.cells
        obtain ⟨⟨v0, v1, v2⟩, z0, z1, z2⟩ := HT1.out.rcells
        obtain ⟨u1, u2, u3⟩ := u
        simp only at x0 x1 x2
        go_wp2
        refine FIN.out wr (u1, u2, u3) HT1.out _ ?_ HUU.out.symm
        rfl
end Go.Proofs.Ytephkmahnbhmbaa

/- Within. -/
import Derived.Test.YtlgejebgkkmacaaPj
namespace Go.Proofs.Ytlgejebgkkmacaa
open Go.ChangeShapes Go.WideShapes Go.ChangeAt Go.RowKit Go.Fl Ieee
attribute [local go_sem] run_store_float run_store_complex call39 call50 run_neg fold_eq fold_ne fold_lt fold_gt abs_eq

/-- Points that can be read. -/
def PV (w : World) (b o n : Nat) (f : Nat → Nat × Nat) : Prop := ∀ j, j < n → w.cell? ⟨b, o + j * 2, none⟩ = some (.float .f64 (f j).1) ∧ w.cell? ⟨b, o + j * 2 + 1, none⟩ = some (.float .f64 (f j).2)
theorem PV.up {w w' : World} {b o n : Nat} {f : Nat → Nat × Nat} (h : PV w b o n f) (hu : Up w w') : PV w' b o n f := fun j hj => ⟨cell_up (h j hj).1 hu, cell_up (h j hj).2 hu⟩
/-- Whether an odd number of these hold. -/
def oddN (g : Nat → Bool) : Nat → Bool
  | 0 => false
  | n + 1 => if g n then !oddN g n else oddN g n
/-- The corner ahead of this one. -/
def prv (f : Nat → Nat × Nat) (n j : Nat) : Nat × Nat := if j = 0 then f (n - 1) else f (j - 1)
def winF (f : Nat → Nat × Nat) (n : Nat) (p : Nat × Nat) : Bool := if n < 3 ∨ 64 < n then false else oddN (fun j => cntF (prv f n j) (f j) p) n
structure WI (w wr : World) (x y : Nat) (q : Nat × Nat) : Prop where
  up : Up w wr
  p : wr.heap[w.heap.size]? = some (.cells #[.float .f64 x, .float .f64 y] 24)
  l : wr.heap[w.heap.size + 1]? = some (.cells #[.float .f64 q.1, .float .f64 q.2] 24)
theorem WI.cells {w wr : World} {x y : Nat} {q : Nat × Nat} (h : WI w wr x y q) {W : World} (hu : Up wr W) : W.cell? ⟨w.heap.size, 0, none⟩ = some (.float .f64 x) ∧ W.cell? ⟨w.heap.size, 1, none⟩ = some (.float .f64 y) ∧ W.cell? ⟨w.heap.size + 1, 0, none⟩ = some (.float .f64 q.1) ∧ W.cell? ⟨w.heap.size + 1, 1, none⟩ = some (.float .f64 q.2) ∧ W.frozen? ⟨w.heap.size + 1, 0, none⟩ = false ∧ W.frozen? ⟨w.heap.size + 1, 1, none⟩ = false := by
  obtain ⟨a1, a2, _, _⟩ := facts2 (kept2 h.p hu)
  obtain ⟨b1, b2, b3, b4⟩ := facts2 (kept2 h.l hu)
  exact ⟨a1, a2, b1, b2, b3, b4⟩
theorem WI.put {w wr : World} {x y r s : Nat} {q : Nat × Nat} (h : WI w wr x y q) {W : World} (hu : Up wr W) : WI w ((W.setCell ⟨w.heap.size + 1, 0, none⟩ (.float .f64 r)).setCell ⟨w.heap.size + 1, 1, none⟩ (.float .f64 s)) x y (r, s) := by
  have hW := kept2 h.l hu
  have hP := kept2 h.p hu
  refine ⟨((h.up.trans hu).setCell (by simp) _).setCell (by simp) _, ?_, put2 hW⟩
  rw [Below.heap_setCell _ _ _ _ (by simp), Below.heap_setCell _ _ _ _ (by simp)]
  exact hP
set_option maxHeartbeats 4000000 in
set_option maxRecDepth 20000 in
theorem t22ok (b o n cap x y : Nat) (f : Nat → Nat × Nat) (w : World) (h1 : 3 ≤ n) (h2 : n ≤ 64) (HP : Hid (PV w b o n f)) : Calls Try.prog 22 #[.slice (some ⟨b, o, none⟩) n cap, .agg #[.float .f64 x, .float .f64 y]] w (BU w (oddN (fun j => cntF (prv f n j) (f j) (x, y)) n)) := by
  obtain ⟨m, hm⟩ : ∃ m : Nat, (n : Int) - 1 = m := ⟨n - 1, by omega⟩
  have hm2 : m < n := by omega
  obtain ⟨l0, l1⟩ := HP.out.up (Up.alloc w (.cells #[.float .f64 x, .float .f64 y] 24)) m hm2
  go_enter Try.func22, Try.ntmps22
  go_wp2_with fail
  go_loopw [6, 25] (fun vb vi wr => ∃ k : Nat, k ≤ n ∧ vi = .int .i64 k ∧ vb = .bool (oddN (fun j => cntF (prv f n j) (f j) (x, y)) k) ∧ Hid (WI w wr x y (prv f n k))) (fun _ vi _ => n - (intOf vi).toNat)
  case atStart =>
    refine ⟨0, by omega, rfl, rfl, ?_⟩
    have e : prv f n 0 = f m := by unfold prv; rw [if_pos rfl]; congr 1; omega
    rw [e]
    exact ⟨(Up.alloc _ _).trans (Up.alloc _ _), kept2 (heap_alloc_last w _) (Up.alloc _ _), second _ _ _⟩
  case round =>
    obtain ⟨k, hk, rfl, rfl, HW⟩ := hrel
    clear l0 l1 hm hm2
    by_cases hlt : k < n
    · have hkz : (k : Int) < (n : Int) := by omega
      obtain ⟨c0, c1⟩ := HP.out.up HW.out.up k hlt
      obtain ⟨p0, p1, q0, q1, _, _⟩ := HW.out.cells (Up.alloc wr (.cells #[.float .f64 (f k).1, .float .f64 (f k).2] 24))
      obtain ⟨c, hc⟩ : ∃ c, cntF (prv f n k) (f k) (x, y) = c := ⟨_, rfl⟩
      have HT : Hid (∀ W, Calls Try.prog 49 #[.agg #[.float .f64 (prv f n k).1, .float .f64 (prv f n k).2, .float .f64 (f k).1, .float .f64 (f k).2], .agg #[.float .f64 x, .float .f64 y]] W (BU W c)) := fun W => by
        have := t49 (prv f n k).1 (prv f n k).2 (f k).1 (f k).2 x y W
        rw [show cntF ((prv f n k).1, (prv f n k).2) ((f k).1, (f k).2) (x, y) = cntF (prv f n k) (f k) (x, y) from rfl, hc] at this
        exact this
      have HO : Hid (oddN (fun j => cntF (prv f n j) (f j) (x, y)) (k + 1) = if c = true then !oddN (fun j => cntF (prv f n j) (f j) (x, y)) k else oddN (fun j => cntF (prv f n j) (f j) (x, y)) k) := by
        show _ = _
        rw [oddN, hc]
      clear hc
      cases c
      all_goals
        go_wp2_with (go_at_call 49; (with_reducible refine (HT.out _).mono ?_); rintro e w2 ⟨rfl, u2⟩; obtain ⟨_, _, L0, L1, L2, L3⟩ := HW.out.cells ((Up.alloc _ _).trans u2); obtain ⟨N0, N1, _, _⟩ := facts2 (kept2 (heap_alloc_last wr _) u2))
        go_roundw
        case rel =>
          refine ⟨k + 1, by omega, by go_num, by rw [HO.out]; rfl, ?_⟩
          have e : prv f n (k + 1) = ((f k).1, (f k).2) := by unfold prv; rw [if_neg (by omega)]; rfl
          rw [e]
          exact HW.out.put ((Up.alloc _ _).trans u2)
        case measure => simp [intOf]; omega
    · obtain rfl : n = k := by omega
      go_wp2
      go_ret
      exact ⟨rfl, HW.out.up⟩
end Go.Proofs.Ytlgejebgkkmacaa

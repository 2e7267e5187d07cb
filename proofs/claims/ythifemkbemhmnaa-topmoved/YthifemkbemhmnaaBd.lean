/- Across. -/
import Derived.Test.YthifemkbemhmnaaBc
namespace Go.Proofs.Ythifemkbemhmnaa
open Go.ChangeShapes Go.WideShapes Go.ChangeAt Go.RowKit Go.Fl Ieee
attribute [local go_sem] run_store_float run_store_c isSome_set call69 call32 run_neg fold_eq fold_ne fold_lt fold_gt abs_eq

set_option maxRecDepth 20000 in
theorem eg45 (args : Array Value) (w : World) : (callFunc 45 args).run Try.prog w = .ok (.enter 45 args) w := enters Try.func45 (by kernel_rfl) (by kernel_rfl) _ _
theorem eg47 (args : Array Value) (w : World) : (callFunc 47 args).run Try.prog w = .ok (.enter 47 args) w := enters Try.func47 (by kernel_rfl) (by kernel_rfl) _ _
theorem eg46 (args : Array Value) (w : World) : (callFunc 46 args).run Try.prog w = .ok (.enter 46 args) w := enters Try.func46 (by kernel_rfl) (by kernel_rfl) _ _
set_option maxRecDepth 20000 in
theorem eg48 (args : Array Value) (w : World) : (callFunc 48 args).run Try.prog w = .ok (.enter 48 args) w := enters Try.func48 (by kernel_rfl) (by kernel_rfl) _ _
abbrev new2 (w : World) (v : Value) : World := w.alloc (.cells #[.func (.func 45) #[v] #[], .int .i64 5, .func (.func 47) #[v] #[], .int .i64 3] 86)
theorem new_cell (w : World) (cs : Array Value) (t : TypeId) (k : Nat) (v : Value) (h : cs[k]? = some v) : (w.alloc (.cells cs t)).cell? ⟨w.heap.size, k, none⟩ = some v := (World.cell?_alloc_at _ _ _ _ rfl).trans h
set_option maxRecDepth 20000 in
theorem ask2 {w : World} {v : Value} {b0 b1 : Bool} {z : Int} (h0 : ∀ w', Up w w' → Calls Try.prog 45 #[v] w' (BR b0 w')) (h1 : b0 = false → ∀ w', Up w w' → Calls Try.prog 47 #[v] w' (BR b1 w')) (hz : z = if b0 then 5 else if b1 then 3 else 0) :
    Calls Try.prog 44 #[.slice (some ⟨w.heap.size, 0, none⟩) 2 2] (new2 w v) (EU z (new2 w v)) := by
  have hQ : ∀ i, i < 2 → (new2 w v).cell? ⟨w.heap.size, i * 2, none⟩ = some (.func (.func ([45, 47][i]!)) (([#[v], #[v]] : List (Array Value))[i]!) (([#[], #[]] : List (Array Value))[i]!)) ∧ (new2 w v).cell? ⟨w.heap.size, i * 2 + 1, none⟩ = some (.int .i64 (([5, 3] : List Int)[i]!)) := by
    intro i hi
    obtain rfl | rfl : i = 0 ∨ i = 1 := by omega
    · exact ⟨new_cell _ _ _ _ _ rfl, new_cell _ _ _ _ _ rfl⟩
    · exact ⟨new_cell _ _ _ _ _ rfl, new_cell _ _ _ _ _ rfl⟩
  have eg : ∀ i, i < 2 → ∀ args w, (callFunc ([45, 47][i]!) args).run Try.prog w = .ok (.enter ([45, 47][i]!) args) w := by
    intro i hi
    obtain rfl | rfl : i = 0 ∨ i = 1 := by omega
    · exact eg45
    · exact eg47
  have hu : Up w (new2 w v) := Up.alloc _ _
  subst hz
  cases b0
  · cases b1
    · refine t44 w.heap.size 2 2 2 _ _ _ _ (fun _ => false) 0 _ (by omega) hQ eg (fun i hi _ w' h => ?_) (fun _ _ => rfl) (Or.inr ⟨rfl, rfl⟩)
      obtain rfl | rfl : i = 0 ∨ i = 1 := by omega
      · exact h0 w' (hu.trans h)
      · exact h1 rfl w' (hu.trans h)
    · refine t44 w.heap.size 2 2 1 _ _ _ _ (fun i => decide (i = 1)) 3 _ (by omega) hQ eg (fun i hi _ w' h => ?_) (fun i hi => by simp; omega) (Or.inl ⟨by omega, rfl, rfl⟩)
      obtain rfl | rfl : i = 0 ∨ i = 1 := by omega
      · exact h0 w' (hu.trans h)
      · exact h1 rfl w' (hu.trans h)
  · refine t44 w.heap.size 2 2 0 _ _ _ _ (fun i => decide (i = 0)) 5 _ (by omega) hQ eg (fun i hi _ w' h => ?_) (fun i hi => by omega) (Or.inl ⟨by omega, rfl, rfl⟩)
    obtain rfl : i = 0 := by omega
    exact h0 w' (hu.trans h)
/-- What a call leaves that tells an error: nothing. -/
def ER (z : Int) (w : World) (e : Ending) (w' : World) : Prop := e = .returned (.tuple #[.slice none 0 0, .int .i64 z]) ∧ Hid (Up w w')
/-- A table that is handed in: n rows of m numbers; where each row begins, its room, and what it holds. -/
structure TI (w : World) (R n m : Nat) (P : Nat → Option Addr) (C G O : Nat → Nat) (f : Nat → Nat → Nat × Nat) : Prop where
  tb : TB w R n P (fun _ => m) C
  rd : ∀ i, i < n → 0 < m → P i = some ⟨G i, O i, none⟩ ∧ RD w (G i) (O i) m (f i)
  room : ∀ i, i < n → m ≤ C i
theorem TI.up {w w' : World} {R n m : Nat} {P : Nat → Option Addr} {C G O : Nat → Nat} {f : Nat → Nat → Nat × Nat} (h : TI w R n m P C G O f) (hu : Up w w') : TI w' R n m P C G O f :=
  ⟨h.tb.up hu, fun i hi hm => ⟨(h.rd i hi hm).1, (h.rd i hi hm).2.up hu⟩, h.room⟩
theorem TI.tv {w : World} {R n m c : Nat} {P : Nat → Option Addr} {C G O : Nat → Nat} {f : Nat → Nat → Nat × Nat} (h : TI w R n m P C G O f) (hp : 0 < n) : TV w (.slice (some ⟨R, 0, none⟩) n c) n m := h.tb.tv hp
theorem TI.cell {w : World} {R n m : Nat} {P : Nat → Option Addr} {C G O : Nat → Nat} {f : Nat → Nat → Nat × Nat} (h : TI w R n m P C G O f) {p g : Nat} (hp : p < n) (hg : g < m) : w.cell? ⟨R, p, none⟩ = some (.slice (some ⟨G p, O p, none⟩) m (C p)) ∧ w.cell? ⟨G p, O p + g, none⟩ = some (.complex .f64 (f p g).1 (f p g).2) := by
  obtain ⟨h1, h2⟩ := h.rd p hp (by omega)
  have := h.tb p hp
  rw [h1] at this
  exact ⟨this, h2 g hg⟩
/-- What a call leaves that hands back a table of its own. -/
def OKT (w : World) (n m : Nat) (F : Nat → Nat → Option Nat × Option Nat) (e : Ending) (w' : World) : Prop :=
  ∃ A B d, e = .returned (.tuple #[.slice (some ⟨A, 0, none⟩) n n, .int .i64 0]) ∧ Hid (BT w w' A B n m d) ∧ Hid (∀ k, k < n → ∀ g, g < m → ab2 d[k * m + g]! = F k g)
theorem idx_inj {a b c d n : Nat} (h : a * n + b = c * n + d) (hb : b < n) (hd : d < n) : a = c ∧ b = d := by
  rcases Nat.lt_trichotomy a c with e | e | e
  · have := Nat.mul_le_mul_right n e
    rw [Nat.succ_mul] at this
    omega
  · subst e; exact ⟨rfl, by omega⟩
  · have := Nat.mul_le_mul_right n e
    rw [Nat.succ_mul] at this
    omega
theorem idx_lt {a b n m : Nat} (ha : a < m) (hb : b < n) : a * n + b < m * n := by
  have := Nat.mul_le_mul_right n ha
  rw [Nat.succ_mul] at this
  omega
theorem BT.rows {w wr : World} {A B n m : Nat} {d : List (Nat × Nat)} (h : BT w wr A B n m d) {k g x : Nat} (hk : k < n) (hg : g < m) (hx : k * m = x) : wr.cell? ⟨A, k, none⟩ = some (.slice (some ⟨B, x, none⟩) m m) ∧ (wr.cell? ⟨B, x + g, none⟩).isSome = true ∧ wr.frozen? ⟨B, x + g, none⟩ = false := by
  subst hx
  refine ⟨h.ans k hk, ?_, h.all.frz _⟩
  rw [h.all.cell (by rw [h.all.len]; exact idx_lt hk hg)]; rfl
theorem BT.base {w0 w wr : World} {A B n m : Nat} {d : List (Nat × Nat)} (h : BT w wr A B n m d) (hu : Up w0 w) : BT w0 wr A B n m d :=
  ⟨h.ne, Nat.le_trans hu.size h.loA, Nat.le_trans hu.size h.loB, h.ans, h.all.down hu.size, hu.trans h.up⟩
end Go.Proofs.Ythifemkbemhmnaa

/- Across. -/
import Derived.Test.YtgalgnopjcpocaaBc
namespace Go.Proofs.Ytgalgnopjcpocaa
open Go.ChangeShapes Go.WideShapes Go.ChangeAt Go.RowKit Go.Fl Ieee
attribute [local go_sem] run_store_float run_store_c isSome_set call20 call33 run_neg fold_eq fold_ne fold_lt fold_gt abs_eq

theorem new_cell (w : World) (cs : Array Value) (t : TypeId) (k : Nat) (v : Value) (h : cs[k]? = some v) : (w.alloc (.cells cs t)).cell? ⟨w.heap.size, k, none⟩ = some v := (World.cell?_alloc_at _ _ _ _ rfl).trans h
/-- What a call leaves that tells an error: nothing. -/
def ER (z : Int) (w : World) (e : Ending) (w' : World) : Prop := e = .returned (.tuple #[.slice none 0 0, .int .i64 z]) ∧ Hid (Up w w')
/-- A table that is handed in: n rows of m numbers; where each row begins, its room, and what it holds. -/
structure TI (w : World) (R n m : Nat) (P : Nat → Option Addr) (C G O : Nat → Nat) (f : Nat → Nat → Nat × Nat) : Prop where
  tb : TB w R n P (fun _ => m) C
  rd : ∀ i, i < n → 0 < m → P i = some ⟨G i, O i, none⟩ ∧ RD w (G i) (O i) m (f i)
  room : ∀ i, i < n → m ≤ C i
theorem TI.up {w w' : World} {R n m : Nat} {P : Nat → Option Addr} {C G O : Nat → Nat} {f : Nat → Nat → Nat × Nat} (h : TI w R n m P C G O f) (hu : Up w w') : TI w' R n m P C G O f :=
  ⟨h.tb.up hu, fun i hi hm => ⟨(h.rd i hi hm).1, (h.rd i hi hm).2.up hu⟩, h.room⟩
theorem TI.tv {w : World} {R n m c : Nat} {P : Nat → Option Addr} {C G O : Nat → Nat} {f : Nat → Nat → Nat × Nat} (h : TI w R n m P C G O f) (hp : 0 < n) : TV w (.slice (some ⟨R, 0, none⟩) n c) n m := h.tb.tv hp
theorem TI.cell {w : World} {R n m : Nat} {P : Nat → Option Addr} {C G O : Nat → Nat} {f : Nat → Nat → Nat × Nat} (h : TI w R n m P C G O f) {p g : Nat} (hp : p < n) (hg : g < m) : w.cell? ⟨R, p, none⟩ = some (.slice (some ⟨G p, O p, none⟩) m (C p)) ∧ w.cell? ⟨G p, O p + g, none⟩ = some (.complex .f64 (f p g).1 (f p g).2) := by
  obtain ⟨h1, h2⟩ := h.rd p hp (by omega)
  have := h.tb p hp
  rw [h1] at this
  exact ⟨this, h2 g hg⟩
/-- What a call leaves that hands back a table of its own. -/
def OKT (w : World) (n m : Nat) (F : Nat → Nat → Option Nat × Option Nat) (e : Ending) (w' : World) : Prop :=
  ∃ A B d, e = .returned (.tuple #[.slice (some ⟨A, 0, none⟩) n n, .int .i64 0]) ∧ Hid (BT w w' A B n m d) ∧ Hid (∀ k, k < n → ∀ g, g < m → ab2 d[k * m + g]! = F k g)
theorem idx_inj {a b c d n : Nat} (h : a * n + b = c * n + d) (hb : b < n) (hd : d < n) : a = c ∧ b = d := by
  rcases Nat.lt_trichotomy a c with e | e | e
  · have := Nat.mul_le_mul_right n e
    rw [Nat.succ_mul] at this
    omega
  · subst e; exact ⟨rfl, by omega⟩
  · have := Nat.mul_le_mul_right n e
    rw [Nat.succ_mul] at this
    omega
theorem idx_lt {a b n m : Nat} (ha : a < m) (hb : b < n) : a * n + b < m * n := by
  have := Nat.mul_le_mul_right n ha
  rw [Nat.succ_mul] at this
  omega
theorem BT.rows {w wr : World} {A B n m : Nat} {d : List (Nat × Nat)} (h : BT w wr A B n m d) {k g x : Nat} (hk : k < n) (hg : g < m) (hx : k * m = x) : wr.cell? ⟨A, k, none⟩ = some (.slice (some ⟨B, x, none⟩) m m) ∧ (wr.cell? ⟨B, x + g, none⟩).isSome = true ∧ wr.frozen? ⟨B, x + g, none⟩ = false := by
  subst hx
  refine ⟨h.ans k hk, ?_, h.all.frz _⟩
  rw [h.all.cell (by rw [h.all.len]; exact idx_lt hk hg)]; rfl
theorem BT.base {w0 w wr : World} {A B n m : Nat} {d : List (Nat × Nat)} (h : BT w wr A B n m d) (hu : Up w0 w) : BT w0 wr A B n m d :=
  ⟨h.ne, Nat.le_trans hu.size h.loA, Nat.le_trans hu.size h.loB, h.ans, h.all.down hu.size, hu.trans h.up⟩
end Go.Proofs.Ytgalgnopjcpocaa

/- Across. -/
import Derived.Test.YtablmkpfbhifnabBc
namespace Go.Proofs.Ytablmkpfbhifnab
open Go.ChangeShapes Go.WideShapes Go.ChangeAt Go.RowKit Go.Fl Ieee
attribute [local go_sem] run_store_float run_store_c isSome_set call49 call47 run_neg fold_eq fold_ne fold_lt fold_gt abs_eq

theorem eg9 (args : Array Value) (w : World) : (callFunc 9 args).run Try.prog w = .ok (.enter 9 args) w := enters Try.func9 (by kernel_rfl) (by kernel_rfl) _ _
theorem eg10 (args : Array Value) (w : World) : (callFunc 10 args).run Try.prog w = .ok (.enter 10 args) w := enters Try.func10 (by kernel_rfl) (by kernel_rfl) _ _
theorem eg11 (args : Array Value) (w : World) : (callFunc 11 args).run Try.prog w = .ok (.enter 11 args) w := enters Try.func11 (by kernel_rfl) (by kernel_rfl) _ _
theorem eg12 (args : Array Value) (w : World) : (callFunc 12 args).run Try.prog w = .ok (.enter 12 args) w := enters Try.func12 (by kernel_rfl) (by kernel_rfl) _ _
theorem eg18 (args : Array Value) (w : World) : (callFunc 18 args).run Try.prog w = .ok (.enter 18 args) w := enters Try.func18 (by kernel_rfl) (by kernel_rfl) _ _
theorem eg19 (args : Array Value) (w : World) : (callFunc 19 args).run Try.prog w = .ok (.enter 19 args) w := enters Try.func19 (by kernel_rfl) (by kernel_rfl) _ _
abbrev new2 (w : World) (v : Value) : World := w.alloc (.cells #[.func (.func 9) #[v] #[], .int .i64 5, .func (.func 11) #[v] #[], .int .i64 3] 36)
theorem new_cell (w : World) (cs : Array Value) (t : TypeId) (k : Nat) (v : Value) (h : cs[k]? = some v) : (w.alloc (.cells cs t)).cell? ⟨w.heap.size, k, none⟩ = some v := (World.cell?_alloc_at _ _ _ _ rfl).trans h
theorem ask2 {w : World} {v : Value} {b0 b1 : Bool} {z : Int} (h0 : ∀ w', Up w w' → Calls Try.prog 9 #[v] w' (BR b0 w')) (h1 : b0 = false → ∀ w', Up w w' → Calls Try.prog 11 #[v] w' (BR b1 w')) (hz : z = if b0 then 5 else if b1 then 3 else 0) :
    Calls Try.prog 8 #[.slice (some ⟨w.heap.size, 0, none⟩) 2 2] (new2 w v) (EU z (new2 w v)) := by
  have hQ : ∀ i, i < 2 → (new2 w v).cell? ⟨w.heap.size, i * 2, none⟩ = some (.func (.func ([9, 11][i]!)) (([#[v], #[v]] : List (Array Value))[i]!) (([#[], #[]] : List (Array Value))[i]!)) ∧ (new2 w v).cell? ⟨w.heap.size, i * 2 + 1, none⟩ = some (.int .i64 (([5, 3] : List Int)[i]!)) := by
    intro i hi
    obtain rfl | rfl : i = 0 ∨ i = 1 := by omega
    · exact ⟨new_cell _ _ _ _ _ rfl, new_cell _ _ _ _ _ rfl⟩
    · exact ⟨new_cell _ _ _ _ _ rfl, new_cell _ _ _ _ _ rfl⟩
  have eg : ∀ i, i < 2 → ∀ args w, (callFunc ([9, 11][i]!) args).run Try.prog w = .ok (.enter ([9, 11][i]!) args) w := by
    intro i hi
    obtain rfl | rfl : i = 0 ∨ i = 1 := by omega
    · exact eg9
    · exact eg11
  have hu : Up w (new2 w v) := Up.alloc _ _
  subst hz
  cases b0
  · cases b1
    · refine t8 w.heap.size 2 2 2 _ _ _ _ (fun _ => false) 0 _ (by omega) hQ eg (fun i hi _ w' h => ?_) (fun _ _ => rfl) (Or.inr ⟨rfl, rfl⟩)
      obtain rfl | rfl : i = 0 ∨ i = 1 := by omega
      · exact h0 w' (hu.trans h)
      · exact h1 rfl w' (hu.trans h)
    · refine t8 w.heap.size 2 2 1 _ _ _ _ (fun i => decide (i = 1)) 3 _ (by omega) hQ eg (fun i hi _ w' h => ?_) (fun i hi => by simp; omega) (Or.inl ⟨by omega, rfl, rfl⟩)
      obtain rfl | rfl : i = 0 ∨ i = 1 := by omega
      · exact h0 w' (hu.trans h)
      · exact h1 rfl w' (hu.trans h)
  · refine t8 w.heap.size 2 2 0 _ _ _ _ (fun i => decide (i = 0)) 5 _ (by omega) hQ eg (fun i hi _ w' h => ?_) (fun i hi => by omega) (Or.inl ⟨by omega, rfl, rfl⟩)
    obtain rfl : i = 0 := by omega
    exact h0 w' (hu.trans h)
/-- What a call leaves that tells an error: nothing. -/
def ER (z : Int) (w : World) (e : Ending) (w' : World) : Prop := e = .returned (.tuple #[.slice none 0 0, .int .i64 z]) ∧ Hid (Up w w')
theorem t6e {w : World} {p : Option Addr} {n c : Nat} {b0 b1 : Bool} {z : Int} (h0 : ∀ w', Up w w' → Calls Try.prog 9 #[.slice p n c] w' (BR b0 w')) (h1 : b0 = false → ∀ w', Up w w' → Calls Try.prog 11 #[.slice p n c] w' (BR b1 w')) (hz : z = if b0 then 5 else if b1 then 3 else 0) (hne : (z != 0) = true) :
    Calls Try.prog 6 #[.slice p n c] w (ER z w) := by
  have HA : Hid (Calls Try.prog 8 #[.slice (some ⟨w.heap.size, 0, none⟩) 2 2] (new2 w (.slice p n c)) (EU z (new2 w (.slice p n c)))) := ask2 h0 h1 hz
  clear h0 h1 hz
  go_enter Try.func6, Try.ntmps6
  go_wp2_with (go_at_call 8; (with_reducible refine HA.out.mono ?_); rintro e w' ⟨rfl, HU⟩)
  go_ret2
  exact ⟨rfl, (Up.alloc _ _).trans HU.out⟩
/-- A table that is handed in: n rows of m numbers; where each row begins, its room, and what it holds. -/
structure TI (w : World) (R n m : Nat) (P : Nat → Option Addr) (C G O : Nat → Nat) (f : Nat → Nat → Nat × Nat) : Prop where
  tb : TB w R n P (fun _ => m) C
  rd : ∀ i, i < n → 0 < m → P i = some ⟨G i, O i, none⟩ ∧ RD w (G i) (O i) m (f i)
  room : ∀ i, i < n → m ≤ C i
theorem TI.up {w w' : World} {R n m : Nat} {P : Nat → Option Addr} {C G O : Nat → Nat} {f : Nat → Nat → Nat × Nat} (h : TI w R n m P C G O f) (hu : Up w w') : TI w' R n m P C G O f :=
  ⟨h.tb.up hu, fun i hi hm => ⟨(h.rd i hi hm).1, (h.rd i hi hm).2.up hu⟩, h.room⟩
theorem TI.tv {w : World} {R n m c : Nat} {P : Nat → Option Addr} {C G O : Nat → Nat} {f : Nat → Nat → Nat × Nat} (h : TI w R n m P C G O f) (hp : 0 < n) : TV w (.slice (some ⟨R, 0, none⟩) n c) n m := h.tb.tv hp
theorem TI.cell {w : World} {R n m : Nat} {P : Nat → Option Addr} {C G O : Nat → Nat} {f : Nat → Nat → Nat × Nat} (h : TI w R n m P C G O f) {p g : Nat} (hp : p < n) (hg : g < m) : w.cell? ⟨R, p, none⟩ = some (.slice (some ⟨G p, O p, none⟩) m (C p)) ∧ w.cell? ⟨G p, O p + g, none⟩ = some (.complex .f64 (f p g).1 (f p g).2) := by
  obtain ⟨h1, h2⟩ := h.rd p hp (by omega)
  have := h.tb p hp
  rw [h1] at this
  exact ⟨this, h2 g hg⟩
/-- What a call leaves that hands back a table of its own. -/
def OKT (w : World) (n m : Nat) (F : Nat → Nat → Option Nat × Option Nat) (e : Ending) (w' : World) : Prop :=
  ∃ A B d, e = .returned (.tuple #[.slice (some ⟨A, 0, none⟩) n n, .int .i64 0]) ∧ Hid (BT w w' A B n m d) ∧ Hid (∀ k, k < n → ∀ g, g < m → ab2 d[k * m + g]! = F k g)
theorem idx_inj {a b c d n : Nat} (h : a * n + b = c * n + d) (hb : b < n) (hd : d < n) : a = c ∧ b = d := by
  rcases Nat.lt_trichotomy a c with e | e | e
  · have := Nat.mul_le_mul_right n e
    rw [Nat.succ_mul] at this
    omega
  · subst e; exact ⟨rfl, by omega⟩
  · have := Nat.mul_le_mul_right n e
    rw [Nat.succ_mul] at this
    omega
theorem idx_lt {a b n m : Nat} (ha : a < m) (hb : b < n) : a * n + b < m * n := by
  have := Nat.mul_le_mul_right n ha
  rw [Nat.succ_mul] at this
  omega
theorem BT.rows {w wr : World} {A B n m : Nat} {d : List (Nat × Nat)} (h : BT w wr A B n m d) {k g x : Nat} (hk : k < n) (hg : g < m) (hx : k * m = x) : wr.cell? ⟨A, k, none⟩ = some (.slice (some ⟨B, x, none⟩) m m) ∧ (wr.cell? ⟨B, x + g, none⟩).isSome = true ∧ wr.frozen? ⟨B, x + g, none⟩ = false := by
  subst hx
  refine ⟨h.ans k hk, ?_, h.all.frz _⟩
  rw [h.all.cell (by rw [h.all.len]; exact idx_lt hk hg)]; rfl
theorem BT.base {w0 w wr : World} {A B n m : Nat} {d : List (Nat × Nat)} (h : BT w wr A B n m d) (hu : Up w0 w) : BT w0 wr A B n m d :=
  ⟨h.ne, Nat.le_trans hu.size h.loA, Nat.le_trans hu.size h.loB, h.ans, h.all.down hu.size, hu.trans h.up⟩
set_option maxHeartbeats 4000000 in
theorem t6 {w : World} {R n m c : Nat} {P : Nat → Option Addr} {C G O : Nat → Nat} {f : Nat → Nat → Nat × Nat} (h : TI w R n m P C G O f) (hn0 : 0 < n) (hn : n ≤ 256) (hm : m ≤ 16384) (hnm : n * m ≤ 262144) :
    Calls Try.prog 6 #[.slice (some ⟨R, 0, none⟩) n c] w (OKT w m n (fun g p => ab2 (f p g))) := by
  have HA : Hid (Calls Try.prog 8 #[.slice (some ⟨w.heap.size, 0, none⟩) 2 2] (new2 w (.slice (some ⟨R, 0, none⟩) n c)) (EU 0 (new2 w (.slice (some ⟨R, 0, none⟩) n c)))) :=
    ask2 (b0 := false) (b1 := false) (fun w' hu => t9 R n c n P _ C false w' (h.tb.up hu) (by omega) (fun _ _ => by omega) hn0 (fun _ _ => rfl) (Or.inr ⟨rfl, rfl⟩)) (fun _ w' hu => t11c ((h.tv hn0).up hu) hn hm (by simpa using hnm)) rfl
  have HT : Hid (TI w R n m P C G O f) := h
  have HM : Hid (m * n ≤ 262144) := by show _ ≤ _; rw [Nat.mul_comm]; exact hnm
  clear h hnm
  go_enter Try.func6, Try.ntmps6
  go_wp2_with (first
    | (go_at_call 8; (with_reducible refine HA.out.mono ?_); rintro e w2 ⟨rfl, HU⟩; clear HA)
    | (go_at_call 15; (with_reducible refine (t15 (HT.out.tv hn0 |>.up ((Up.alloc _ _).trans HU.out)) (by omega)).mono ?_); rintro e w' ⟨rfl, rfl⟩)
    | (go_at_call 14; (with_reducible refine (t14 m n _ hm (by omega) HM.out).mono ?_); rintro e w3 ⟨A, B, rfl, HB⟩)
    | (go_at_call 15; (with_reducible refine (t15 (HT.out.tv hn0 |>.up (((Up.alloc _ _).trans HU.out).trans HB.out.up)) (by omega)).mono ?_); rintro e w3 ⟨rfl, rfl⟩))
  have HS : Hid (BT w w3 A B m n (List.replicate (m * n) (0, 0))) := HB.out.base ((Up.alloc _ _).trans HU.out)
  clear HB HU
  go_loopw [29] (fun vi wr => ∃ (g : Nat) (d : List (Nat × Nat)), g ≤ m ∧ vi = .int .i64 g ∧ Hid (BT w wr A B m n d) ∧ Hid (∀ k, k < g → ∀ p, p < n → d[k * n + p]! = f p k)) (fun vi _ => m - (intOf vi).toNat)
  case atStart => exact ⟨0, _, by omega, rfl, HS, fun k hk => by omega⟩
  case round =>
    clear HS
    obtain ⟨g, d, hg, rfl, HS, HD⟩ := hrel
    by_cases hlt : g < m
    · have z1 : (g : Int) < (m : Int) := by omega
      have z2 : (0 : Int) ≤ (g : Int) := by omega
      obtain ⟨x, hx⟩ : ∃ x, g * n = x := ⟨_, rfl⟩
      have HX : Hid (g * n = x) := hx
      clear hx
      go_wp2
      go_loopw [34] (fun vi wr => ∃ (p : Nat) (d : List (Nat × Nat)), p ≤ n ∧ vi = .int .i64 p ∧ Hid (BT w wr A B m n d) ∧ Hid ((∀ k, k < g → ∀ p, p < n → d[k * n + p]! = f p k) ∧ ∀ q, q < p → d[g * n + q]! = f q g)) (fun vi _ => n - (intOf vi).toNat)
      case atStart => exact ⟨0, _, by omega, rfl, HS, HD.out, fun k hk => by omega⟩
      case round =>
        clear HS HD
        obtain ⟨p, d, hp, rfl, HS, HD⟩ := hrel
        by_cases hlt2 : p < n
        · have y1 : (p : Int) < (n : Int) := by omega
          have y2 : (0 : Int) ≤ (p : Int) := by omega
          obtain ⟨c1, c2⟩ := (HT.out.up HS.out.up).cell hlt2 hlt
          obtain ⟨c3, c4, c5⟩ := HS.out.rows hlt hlt2 HX.out
          obtain ⟨u, v, HF⟩ : ∃ u v, Hid (f p g = (u, v)) := ⟨_, _, rfl⟩
          rw [HF.out] at c2
          simp only at c2
          go_wp2
          go_region
          go_wp2
          go_roundw
          case rel =>
            have hi := idx_lt hlt hlt2
            refine ⟨p + 1, _, by omega, by go_num, (HS.out.put (x + p) u v).mono (Up.drewN _ 1), ?_, ?_⟩
            · intro k hk q hq
              have hl : x + p < d.length := by rw [HS.out.all.len, ← HX.out]; exact hi
              rw [set_at _ _ _ _ hl, ← HX.out, if_neg (fun e => by have := (idx_inj e hq hlt2).1; omega)]
              exact HD.out.1 k hk q hq
            · intro q hq
              have hl : x + p < d.length := by rw [HS.out.all.len, ← HX.out]; exact hi
              rw [set_at _ _ _ _ hl, ← HX.out]
              by_cases e : q = p
              · subst e; rw [if_pos rfl]; exact HF.out.symm
              · rw [if_neg (by omega)]; exact HD.out.2 q (by omega)
          case measure => simp [intOf]; omega
        · obtain rfl : p = n := by omega
          go_wp2
          go_roundw
          case rel =>
            refine ⟨g + 1, d, by omega, by go_num, HS, fun k hk q hq => ?_⟩
            by_cases e : k = g
            · subst e; exact HD.out.2 q hq
            · exact HD.out.1 k (by omega) q hq
          case measure => simp [intOf]; omega
    · obtain rfl : g = m := by omega
      go_wp2
      go_ret2
      exact ⟨A, B, d, rfl, HS, fun k hk q hq => by rw [HD.out k hk q hq]⟩
end Go.Proofs.Ytablmkpfbhifnab

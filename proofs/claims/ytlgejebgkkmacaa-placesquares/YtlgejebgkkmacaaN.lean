/- What the document says of pulses: the reference's Chirp, Frank, Steps, Barker, Code. -/
import Derived.Test.YtlgejebgkkmacaaK
import Derived.Test.YtlgejebgkkmacaaO
namespace Go.Proofs.Ytlgejebgkkmacaa
open Go.ChangeShapes Go.WideShapes Go.ChangeAt Go.RowKit Go.Fl Ieee
attribute [local go_sem] run_store_float run_store_complex call39 call50 run_neg fold_eq fold_ne fold_lt fold_gt abs_eq

theorem fin_is (x : Nat) : (eqF (ab x) (ab x) && (ltF (ab x) (ab 9218868437227405311) || eqF (ab x) (ab 9218868437227405311)) && (gtF (ab x) (ab 18442240474082181119) || eqF (ab x) (ab 18442240474082181119))) = fin (ab x) := by
  cases hN : isN x with
  | true => simp [fin, ab_none hN, eqF, ord]
  | false =>
    have hA : isN (abs x) = false := by rw [isN_abs]; exact hN
    have e1 : ord (ab x) (ab 9218868437227405311) = some (compare (lin x) (lin 9218868437227405311)) := by
      rw [← order_ab]; exact order_lin hN (by decide +kernel)
    have e2 : ord (ab x) (ab 18442240474082181119) = some (compare (lin x) (lin 18442240474082181119)) := by
      rw [← order_ab]; exact order_lin hN (by decide +kernel)
    have e3 : ord ((ab x).map abs) (ab 9218868437227405311) = some (compare (lin (abs x)) (lin 9218868437227405311)) := by
      rw [← ab_abs, ← order_ab]; exact order_lin hA (by decide +kernel)
    have l1 : lin 9218868437227405311 = 9218868437227405311 := by decide +kernel
    have l2 : lin 18442240474082181119 = -9218868437227405311 := by decide +kernel
    have l3 : lin (abs x) = ((x % 2 ^ 63 : Nat) : Int) := by
      have : abs x < 2 ^ 63 := Nat.mod_lt _ (by decide)
      rw [lin_low this]; rfl
    have l4 : lin x = ((x % 2 ^ 63 : Nat) : Int) ∨ lin x = -((x % 2 ^ 63 : Nat) : Int) := by
      unfold lin sgn; split <;> simp
    unfold fin
    rw [eqF_self, hN]
    unfold ltF eqF gtF
    rw [e1, e2, e3, l1, l2, l3]
    generalize x % 2 ^ 63 = m at *
    rw [Bool.eq_iff_iff]
    rcases l4 with l4 | l4 <;> rw [l4] <;> simp only [Int.compare_eq_ite_lt, Bool.not_false, Bool.true_and, Bool.and_eq_true, Bool.or_eq_true, Bool.not_eq_true', beq_iff_eq, Option.some.injEq] <;> (repeat' split) <;> simp <;> omega
theorem t43 (x : Nat) (w : World) : Calls Try.prog 43 #[.float .f64 x] w fun e w' => e = .returned (.bool (fin (ab x))) ∧ w' = w := by
  go_enter Try.func43, Try.ntmps43
  go_wp2
  all_goals (go_ret; go_tidy; refine ⟨?_, rfl⟩; rw [← fin_is])
  all_goals simp_all

/-- A row that grows. -/
structure Grow (w0 w : World) (v : Value) (F : Nat → Option Nat × Option Nat) (k : Nat) : Prop where
  row : ∃ O : List (Nat × Nat), O.length = k ∧ w.ownsRow w0.heap.size 53 2 v k (O.flatMap se) ∧ ∀ j, j < k → ab2 O[j]! = F j
  below : Up w0 w
theorem Grow.nil (w : World) (F : Nat → Option Nat × Option Nat) : Grow w w (.slice none 0 0) F 0 := ⟨⟨[], rfl, World.ownsRow_nil _ _ _ _, fun j hj => by omega⟩, Up.refl _⟩
theorem Grow.up {w0 w w' : World} {v : Value} {k : Nat} {F : Nat → Option Nat × Option Nat} (h : Grow w0 w v F k) (hu : Up w w') : Grow w0 w' v F k := by
  obtain ⟨⟨O, h1, h2, h3⟩, h4⟩ := h
  exact ⟨⟨O, h1, owns_up h2 hu, h3⟩, h4.trans hu⟩
theorem Grow.push {w0 w wa w1 : World} {v v' : Value} {k x y : Nat} {F : Nat → Option Nat × Option Nat} {O : List (Nat × Nat)} (h1 : O.length = k) (h2 : w.ownsRow w0.heap.size 53 2 v k (O.flatMap se)) (h3 : ∀ j, j < k → ab2 O[j]! = F j) (h4 : Up w0 w) (hu : Up w wa)
    (hown : w1.ownsRow w0.heap.size 53 2 v' (k + 1) (O.flatMap se ++ [.float .f64 x, .float .f64 y])) (hg : wa.grownBy w1 v.ownBlock) (hx : ab x = (F k).1) (hy : ab y = (F k).2) : Grow w0 w1 v' F (k + 1) := by
  obtain ⟨a1, a2⟩ := srow_push h2 h4 hu hown hg
  refine ⟨⟨O ++ [(x, y)], by simp [h1], a1, fun j hj => ?_⟩, a2⟩
  rcases Nat.lt_or_ge j k with hlt | hge
  · rw [getElem!_pos _ j (by simp; omega), List.getElem_append_left (by omega), ← getElem!_pos O j (by omega)]
    exact h3 j hlt
  · obtain rfl : j = k := by omega
    rw [getElem!_pos _ j (by simp; omega), List.getElem_append_right (by omega)]
    simp only [h1, Nat.sub_self, List.getElem_cons_zero]
    exact Prod.ext hx hy
theorem Grow.ql {w0 w : World} {v : Value} {k : Nat} {F : Nat → Option Nat × Option Nat} (h : Grow w0 w v F k) {L : List (Option Nat × Option Nat)} (hL : L = (List.range k).map F) : QL w0 L 0 (.returned (.tuple #[v, .int .i64 0])) w := by
  obtain ⟨⟨O, rfl, h2, h3⟩, h4⟩ := h
  refine ⟨v, O, rfl, h2, h4, ?_⟩
  show _ = _
  rw [hL]
  refine List.ext_getElem (by simp) fun i hi _ => ?_
  have hi' : i < O.length := by simpa using hi
  have := h3 i hi'
  rw [getElem!_pos O i hi'] at this
  simpa using this
theorem QL.none (w : World) (c : Int) : QL w [] c (.returned (.tuple #[.slice none 0 0, .int .i64 c])) w := ⟨_, [], rfl, World.ownsRow_nil _ _ _ _, Up.refl _, rfl⟩
theorem up_var (w : World) (o o2 : Obj) (x y : Value) : Up w ((((w.alloc o).setCell ⟨w.heap.size, 0, none⟩ x).setCell ⟨w.heap.size, 1, none⟩ y).alloc o2) :=
  (((((Below.refl _ _).alloc (Nat.le_refl _) _).setCell (Nat.le_refl _) _).setCell (Nat.le_refl _) _).alloc (by simp) _)
theorem up_new (w : World) (o o2 : Obj) : Up w ((w.alloc o).alloc o2) := (Up.alloc _ _).trans (Up.alloc _ _)
theorem cell_new2b (w : World) (o : Obj) (x y : Nat) (t : TypeId) : ∀ (j : Nat) (u : Value), [Value.float .f64 x, .float .f64 y][j]? = some u → ((w.alloc o).alloc (.cells #[.float .f64 x, .float .f64 y] t)).cell? ((⟨w.heap.size + 1, 0, none⟩ : Addr).add j) = some u := by
  have e : w.heap.size + 1 = (w.alloc o).heap.size := by simp
  rw [e]
  exact cell_new2 (w.alloc o) x y t
end Go.Proofs.Ytlgejebgkkmacaa

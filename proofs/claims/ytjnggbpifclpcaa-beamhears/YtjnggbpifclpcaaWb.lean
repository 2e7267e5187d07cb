/- BeamEven. -/
import Derived.Test.YtjnggbpifclpcaaEd
import Derived.BigQuiet
import Derived.Deep.QuietTactic
namespace Go.Proofs.Ytjnggbpifclpcaa
open Go.ChangeShapes Go.WideShapes Go.ChangeAt Go.RowKit Go.Fl Ieee
attribute [local go_sem] run_store_float run_store_complex call34 call33 run_neg fold_eq fold_ne fold_lt fold_gt abs_eq

theorem run_eqc {P : Program} (t : TypeId) (a b c d : Nat) (w : World) : (binOp .eql t (.complex .f64 a b) (.complex .f64 c d)).run P w = .ok (.bool (eqF (ab a) (ab c) && eqF (ab b) (ab d))) w := by
  simp [binOp, Op.complexOp, Op.Complex.cmp, Op.floatCmp, asBool, ← fold_eq]
theorem run_nec {P : Program} (t : TypeId) (a b c d : Nat) (w : World) : (binOp .neq t (.complex .f64 a b) (.complex .f64 c d)).run P w = .ok (.bool (!(eqF (ab a) (ab c) && eqF (ab b) (ab d)))) w := by
  simp [binOp, Op.complexOp, Op.Complex.cmp, Op.floatCmp, asBool, ← fold_eq]
theorem run_fl_some {P : Program} (op : BinOp) (t : TypeId) {x y r : Nat} (w : World) (h : bin op (ab x) (ab y) = some r) : (binOp op t (.float .f64 x) (.float .f64 y)).run P w = .ok (.float .f64 r) w :=
  run_float_arith w op t .f64 x y r (by rw [bits_ab]; exact h)
theorem t16q {c s A : Nat} (h : absF (ab c) (ab s) = some A) (w : World) : Calls Try.prog 16 #[.complex .f64 c s] w fun e w' => e = .returned (.float .f64 A) ∧ ∃ m, w' = w.drewN m :=
  (t16 c s w).mono fun e w' ⟨r, n, h1, h2, h3⟩ => ⟨by rw [h1, ab_is (s := r) (r := A) (by rw [h3.out]; exact h)], n, h2⟩
theorem steer_cases (n : Int) (s t : Option Nat) : (steerL n s t = [] ∧ (steerE n s t = 2 ∨ steerE n s t = 3 ∨ steerE n s t = 6)) ∨ ∃ N : Nat, n = N ∧ 1 ≤ N ∧ N ≤ 64 ∧ fin s = true ∧ fin t = true ∧ steerL n s t = (List.range N).map (steerF s t) ∧ steerE n s t = 0 := by
  unfold steerL steerE
  by_cases h1 : n < 1
  · rw [if_pos h1, if_pos h1]; exact Or.inl ⟨rfl, Or.inl rfl⟩
  · rw [if_neg h1, if_neg h1]
    by_cases h2 : n > 64
    · rw [if_pos h2, if_pos h2]; exact Or.inl ⟨rfl, Or.inr (Or.inl rfl)⟩
    · rw [if_neg h2, if_neg h2]
      cases hf : fin s && fin t
      · exact Or.inl ⟨rfl, Or.inr (Or.inr rfl)⟩
      · rw [Bool.and_eq_true] at hf
        refine Or.inr ⟨n.toNat, by omega, by omega, by omega, hf.1, hf.2, rfl, rfl⟩
/-- Steer, where it tells an error; where it tells numbers. -/
theorem t8e {n : Int} {x y : Nat} {w : World} (h : steerL n (ab x) (ab y) = []) : Calls Try.prog 8 #[.int .i64 n, .float .f64 x, .float .f64 y] w fun e w' => ∃ p c, e = .returned (.tuple #[.slice p 0 c, .int .i64 (steerE n (ab x) (ab y))]) ∧ Hid (Up w w') := by
  have q := t8 n x y w
  rw [h] at q
  refine q.mono fun e w' ⟨v, d, h1, h2, h3, h4⟩ => ?_
  obtain ⟨p, c, e1, _⟩ := own_form h2.out
  have hl : d.length = 0 := by simpa using congrArg List.length h4.out
  rw [hl] at e1
  exact ⟨p, c, by rw [h1, e1], h3⟩
def StR (N : Nat) (F : Nat → CN) (w : World) (e : Ending) (w' : World) : Prop := ∃ (g c : Nat) (d : List (Nat × Nat)), e = .returned (.tuple #[.slice (some ⟨g, 0, none⟩) N c, .int .i64 0]) ∧ Hid (∀ j, j < N → w'.cell? ⟨g, j, none⟩ = some (.complex .f64 d[j]!.1 d[j]!.2) ∧ ab2 d[j]! = F j) ∧ Hid (Up w w')
theorem t8s {N : Nat} {x y : Nat} {w : World} (h0 : 1 ≤ N) (h : steerL N (ab x) (ab y) = (List.range N).map (steerF (ab x) (ab y))) (he : steerE N (ab x) (ab y) = 0) : Calls Try.prog 8 #[.int .i64 N, .float .f64 x, .float .f64 y] w (StR N (steerF (ab x) (ab y)) w) := by
  have q := t8 N x y w
  rw [h, he] at q
  refine q.mono fun e w' ⟨v, d, h1, h2, h3, h4⟩ => ?_
  obtain ⟨p, c, e1, hg⟩ := own_form h2.out
  have hl : d.length = N := by simpa using congrArg List.length h4.out
  obtain ⟨g, rfl⟩ := hg (by omega)
  subst e1
  have hc := h2.out
  refine ⟨g, c, d, by rw [h1, hl], fun j hj => ⟨hc.cell (show j < d.length by omega), ?_⟩, h3⟩
  have q := congrArg (fun l => l[j]?) h4.out
  simp only [List.getElem?_map, List.getElem?_eq_getElem (show j < d.length by omega), List.getElem?_range hj, Option.map_some, Option.some.injEq] at q
  rw [getElem!_pos d j (by omega)]
  exact q
theorem pair_is {d : Nat × Nat} {c s : Nat} (h : ab2 d = (some c, some s)) : d.1 = c ∧ d.2 = s := by
  simp only [ab2, Prod.mk.injEq] at h
  exact ⟨ab_is h.1, ab_is h.2⟩
set_option maxHeartbeats 4000000 in
set_option maxRecDepth 20000 in
theorem t35a (w : World) : Calls Try.prog 35 #[.float .f64 4607182418800017408] w fun e w' => e = .returned (.int .u64 13830554455654793216) ∧ w' = w := by
  have a : (bits .and .u64 4607182418800017408 9223372036854775808) = 0 := by decide +kernel
  have b : (bits .or .u64 4607182418800017408 9223372036854775808) = 13830554455654793216 := by decide +kernel
  go_enter Try.func35, Try.ntmps35
  go_wp2_with (go_at_call 45; (with_reducible refine (t45k (b := false) (by decide +kernel) _).mono ?_); rintro e w' ⟨rfl, hw⟩; subst w')
  go_ret
  exact ⟨rfl, rfl⟩
set_option maxHeartbeats 4000000 in
set_option maxRecDepth 20000 in
theorem t35b (w : World) : Calls Try.prog 35 #[.float .f64 0] w fun e w' => e = .returned (.int .u64 9223372036854775808) ∧ w' = w := by
  have a : (bits .and .u64 0 9223372036854775808) = 0 := by decide +kernel
  have b : (bits .or .u64 0 9223372036854775808) = 9223372036854775808 := by decide +kernel
  go_enter Try.func35, Try.ntmps35
  go_wp2_with (go_at_call 45; (with_reducible refine (t45k (b := false) (by decide +kernel) _).mono ?_); rintro e w' ⟨rfl, hw⟩; subst w')
  go_ret
  exact ⟨rfl, rfl⟩
set_option maxHeartbeats 4000000 in
set_option maxRecDepth 20000 in
theorem t15k (w : World) : Calls Try.prog 15 #[.complex .f64 4607182418800017408 0, .complex .f64 4607182418800017408 0] w fun e w' => e = .returned (.bool true) ∧ w' = w := by
  go_enter Try.func15, Try.ntmps15
  go_wp2_with (first
    | (go_at_call 35; (with_reducible refine (t35a _).mono ?_); rintro e w' ⟨rfl, hw⟩; subst w')
    | (go_at_call 35; (with_reducible refine (t35b _).mono ?_); rintro e w' ⟨rfl, hw⟩; subst w'))
  go_ret
  exact ⟨rfl, rfl⟩
end Go.Proofs.Ytjnggbpifclpcaa

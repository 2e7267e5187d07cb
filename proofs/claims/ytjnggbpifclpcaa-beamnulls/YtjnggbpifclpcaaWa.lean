/- BeamSteers. -/
import Derived.Test.YtjnggbpifclpcaaVh
import Derived.Test.YtjnggbpifclpcaaUb
namespace Go.Proofs.Ytjnggbpifclpcaa
open Go.ChangeShapes Go.WideShapes Go.ChangeAt Go.RowKit Go.Fl Ieee
attribute [local go_sem] run_store_float run_store_complex call34 call33 run_neg fold_eq fold_ne fold_lt fold_gt abs_eq

theorem apart_lt {b b' : Nat} {w w' : World} {t t' : TypeId} {s s' n n' : Nat} {u v : Value} {xs ys : List Value} (hu : w.ownsRow b t s u n xs) (hv : w'.ownsRow b' t' s' v n' ys) (h : w.heap.size ≤ b' ∨ w'.heap.size ≤ b) : Apart u v := by
  unfold Apart
  rcases hun : u.ownBlock with _ | j
  · exact Or.inl rfl
  · refine Or.inr (fun e => ?_)
    have a1 := hu.lt j hun
    have a2 := hv.lt j e.symm
    omega
theorem told_ok {b : Nat} {w1 w2 w3 : World} {va vb vw : Value} {da db dw : List (Nat × Nat)} {L : List (Option Nat × Option Nat)} {c : Int} (hw : Hid (SRow b w1 vw dw)) (e1 : Hid (dw.map ab2 = L)) (ha : Hid (CRow w1.heap.size w2 va da)) (u2 : Hid (Up w1 w2)) (e2 : Hid (da.map ab2 = L)) (hb : Hid (CRow w2.heap.size w3 vb db)) (u3 : Hid (Up w2 w3)) (e3 : Hid (db.map ab2 = L)) (hn : L.length < 1000000) :
    Calls Try.prog 9 #[va, vb, .int .i64 c, .int .i64 c, vw, .int .i64 c] w3 fun e w' => e = .returned (.bool true) ∧ Hid (Up w1 w') := by
  have ha3 := ha.out.up u3.out
  have hR : Rows3 w1.heap.size w3 w3 va vb vw da.length db dw :=
    ⟨⟨da, rfl, ha3⟩, ⟨_, hb.out⟩, ⟨_, (hw.out.up u2.out).up u3.out⟩, apart_lt hb.out ha.out (Or.inr (Nat.le_refl _)), apart_lt hw.out ha.out (Or.inl (Nat.le_refl _)), Below.refl _ _, Nat.le_trans u2.out.size u3.out.size⟩
  have la : da.length = L.length := by simpa using congrArg List.length e2.out
  refine (t9 c hR ha3 (e2.out.trans e1.out.symm) (e3.out.trans e1.out.symm) (by omega)).mono fun e w' ⟨he, hbel⟩ => ⟨he, ?_⟩
  have h1 : Below w1.heap.size w1 w3 := u2.out.trans u3.out
  exact h1.trans hbel.out
theorem SRow.hup {b : Nat} {w w' : World} {v : Value} {d : List (Nat × Nat)} (h : Hid (SRow b w v d)) (hu : Hid (Up w w')) : Hid (SRow b w' v d) := h.out.up hu.out
theorem steerL_len (n : Int) (s t : Option Nat) : (steerL n s t).length < 1000000 := by
  unfold steerL
  by_cases h1 : n < 1
  · rw [if_pos h1]; simp
  · rw [if_neg h1]
    by_cases h2 : n > 64
    · rw [if_pos h2]; simp
    · rw [if_neg h2]
      split
      · simp; omega
      · simp
set_option maxHeartbeats 4000000 in
set_option maxRecDepth 20000 in
theorem t3 (n : Int) (x y : Nat) (w : World) : Calls Try.prog 3 #[.int .i64 n, .float .f64 x, .float .f64 y] w (TU w) := by
  go_enter Try.func3, Try.ntmps3
  go_wp2_with (first
    | (go_at_call 7; (with_reducible refine (t7 _ _ _ _).mono ?_); rintro e w1 ⟨v1, d1, rfl, r1, u1, e1⟩)
    | (go_at_call 8; (with_reducible refine (t8 _ _ _ w1).mono ?_); rintro e w2 ⟨va, da, rfl, ra, u2, ea⟩)
    | (go_at_call 8; (with_reducible refine (t8 _ _ _ w2).mono ?_); rintro e w3 ⟨vb, db, rfl, rb, u3, eb⟩)
    | (go_at_call 9; (with_reducible refine (told_ok r1 e1 ra u2 ea rb u3 eb (steerL_len _ _ _)).mono ?_); rintro e w4 ⟨rfl, u4⟩)
    | (go_at_call 10; (with_reducible refine (t10 _).mono ?_); rintro e w5 ⟨rfl, u5⟩))
  go_ret
  exact ⟨rfl, (u1.out.trans u4.out).trans u5.out⟩
end Go.Proofs.Ytjnggbpifclpcaa

/- The walks of the statements that hold the program's answers against the document's. -/
import Derived.Test.YtoncdgkcmbainaaR
import Derived.Test.YtoncdgkcmbainaaV
namespace Go.Proofs.Ytoncdgkcmbainaa
open Go.ChangeShapes Go.WideShapes Go.ChangeAt Go.RowKit Go.Fl Ieee

theorem apart_lt {b b' : Nat} {w w' : World} {t t' : TypeId} {s s' n n' : Nat} {u v : Value} {xs ys : List Value} (hu : w.ownsRow b t s u n xs) (hv : w'.ownsRow b' t' s' v n' ys) (h : w.heap.size ≤ b' ∨ w'.heap.size ≤ b) : Apart u v := by
  unfold Apart
  rcases hun : u.ownBlock with _ | j
  · exact Or.inl rfl
  · refine Or.inr (fun e => ?_)
    have a1 := hu.lt j hun
    have a2 := hv.lt j e.symm
    omega
theorem told_ok {b : Nat} {w1 w2 w3 : World} {va vb vw : Value} {da db dw : List (Nat × Nat)} {L : List (Option Nat × Option Nat)} {c : Int} (hw : Hid (SRow b w1 vw dw)) (e1 : Hid (dw.map ab2 = L)) (ha : Hid (CRow w1.heap.size w2 va da)) (u2 : Hid (Up w1 w2)) (e2 : Hid (da.map ab2 = L)) (hb : Hid (CRow w2.heap.size w3 vb db)) (u3 : Hid (Up w2 w3)) (e3 : Hid (db.map ab2 = L)) (hn : L.length < 1000000) :
    Calls Try.prog 11 #[va, vb, .int .i64 c, .int .i64 c, vw, .int .i64 c] w3 fun e w' => e = .returned (.bool true) ∧ Hid (Up w1 w') := by
  have ha3 := ha.out.up u3.out
  have hR : Rows3 w1.heap.size w3 w3 va vb vw da.length db dw :=
    ⟨⟨da, rfl, ha3⟩, ⟨_, hb.out⟩, ⟨_, (hw.out.up u2.out).up u3.out⟩, apart_lt hb.out ha.out (Or.inr (Nat.le_refl _)), apart_lt hw.out ha.out (Or.inl (Nat.le_refl _)), Below.refl _ _, Nat.le_trans u2.out.size u3.out.size⟩
  have la : da.length = L.length := by simpa using congrArg List.length e2.out
  refine (t11 c hR ha3 (e2.out.trans e1.out.symm) (e3.out.trans e1.out.symm) (by omega)).mono fun e w' ⟨he, hbel⟩ => ⟨he, ?_⟩
  have h1 : Below w1.heap.size w1 w3 := u2.out.trans u3.out
  exact h1.trans hbel.out
theorem SRow.hup {b : Nat} {w w' : World} {v : Value} {d : List (Nat × Nat)} (h : Hid (SRow b w v d)) (hu : Hid (Up w w')) : Hid (SRow b w' v d) := h.out.up hu.out
theorem chirpL_len (n : Int) (t : Option Nat) : (chirpL n t).length < 1000000 := by
  unfold chirpL
  repeat' split
  all_goals simp
  omega
theorem barkerL_len (n : Int) : (barkerL n).length < 1000000 := by
  rcases row_facts n with h | ⟨h1, h2, h3, h4, h5⟩
  · rw [barkerL, h]; decide
  · simp [barkerL]; omega
theorem frankL_len (n : Int) : (frankL n).length < 1000000 := by
  unfold frankL
  repeat' split
  all_goals simp
  rename_i h1 h2
  have : n.toNat * n.toNat ≤ 128 * 128 := Nat.mul_le_mul (by omega) (by omega)
  omega
theorem stepsL_len (o : List Int) (n : Int) : (stepsL o n).length < 1000000 := by
  unfold stepsL
  repeat' split
  · simp
  · simp
  · simp only [List.length_map, List.length_range]; omega
theorem len_ite {p : Prop} [Decidable p] {a b : List (Option Nat × Option Nat)} {N : Nat} (ha : a.length < N) (hb : b.length < N) : (if p then a else b).length < N := by
  split
  · exact ha
  · exact hb
theorem codeL_len (n : Int) : (codeL n).length < 1000000 := by
  unfold codeL
  repeat' (with_reducible refine len_ite ?_ ?_)
  all_goals first
    | with_reducible exact barkerL_len _
    | with_reducible exact frankL_len _
    | with_reducible exact chirpL_len _ _
    | with_reducible exact stepsL_len _ _
    | (show 1 < 1000000; omega)
    | (show 0 < 1000000; omega)

theorem t6 (w : World) : Calls Try.prog 6 #[] w (TU w) := by
  go_enter Try.func6, Try.ntmps6
  go_wp2_with (go_at_call 12; refine (t12 _).mono ?_; rintro e w1 ⟨rfl, u1⟩)
  go_ret
  exact ⟨rfl, u1⟩
theorem t3 (n : Int) (x : Nat) (w : World) : Calls Try.prog 3 #[.int .i64 n, .float .f64 x] w (TU w) := by
  go_enter Try.func3, Try.ntmps3
  go_wp2_with (first
    | (go_at_call 9; refine (t9 _ _ _).mono ?_; rintro e w1 ⟨vw, dw, rfl, hw, u1, e1⟩)
    | (go_at_call 10; (with_reducible refine (t10 _ _ w1).mono ?_); rintro e w2 ⟨va, da, rfl, ha, u2, e2⟩)
    | (go_at_call 10; (with_reducible refine (t10 _ _ w2).mono ?_); rintro e w3 ⟨vb, db, rfl, hb, u3, e3⟩)
    | (go_at_call 11; (with_reducible refine (told_ok hw e1 ha u2 e2 hb u3 e3 (chirpL_len _ _)).mono ?_); rintro e w4 ⟨rfl, u4⟩)
    | (go_at_call 12; refine (t12 _).mono ?_; rintro e w5 ⟨rfl, u5⟩))
  go_ret
  exact ⟨rfl, (u1.out.trans u4.out).trans u5.out⟩
set_option maxHeartbeats 1000000 in
theorem t4 (n : Int) (w : World) (hn : n ≤ 9223372036854775807) : Calls Try.prog 4 #[.int .i64 n] w (TU w) := by
  go_enter Try.func4, Try.ntmps4
  go_wp2_with (first
    | (go_at_call 13; refine (t13 _ _).mono ?_; rintro e w1 ⟨v1, d1, rfl, r1, u1, e1⟩)
    | (go_at_call 14; refine (t14 _ _).mono ?_; rintro e w2 ⟨v2, d2, rfl, r2, u2, e2⟩)
    | (go_at_call 15; refine (t15 _ _).mono ?_; rintro e w3 ⟨v3, d3, rfl, r3, u3, e3⟩)
    | (go_at_call 16; (with_reducible refine (t16 _ w3).mono ?_); rintro e w4 ⟨va, da, rfl, ra, u4, ea⟩)
    | (go_at_call 16; (with_reducible refine (t16 _ w4).mono ?_); rintro e w5 ⟨vb, db, rfl, rb, u5, eb⟩)
    | (go_at_call 11; (with_reducible refine (told_ok (SRow.hup (SRow.hup r1 u2) u3) e1 ra u4 ea rb u5 eb (barkerL_len _)).mono ?_); rintro e w6 ⟨rfl, u6⟩)
    | (go_at_call 17; (with_reducible refine (t17 _ w6 hn).mono ?_); rintro e w7 ⟨vc, dc, rfl, rc, u7, ec⟩)
    | (go_at_call 17; (with_reducible refine (t17 _ w7 hn).mono ?_); rintro e w8 ⟨vd, dd, rfl, rd, u8, ed⟩)
    | (go_at_call 11; (with_reducible refine (told_ok (SRow.hup (SRow.hup r2 u3) u6) e2 rc u7 ec rd u8 ed (frankL_len _)).mono ?_); rintro e w9 ⟨rfl, u9⟩)
    | (go_at_call 18; (with_reducible refine (t18 _ w9).mono ?_); rintro e w10 ⟨ve, de, rfl, re, u10, ee⟩)
    | (go_at_call 18; (with_reducible refine (t18 _ w10).mono ?_); rintro e w11 ⟨vf, df, rfl, rf, u11, ef⟩)
    | (go_at_call 11; (with_reducible refine (told_ok (SRow.hup (SRow.hup r3 u6) u9) e3 re u10 ee rf u11 ef (codeL_len _)).mono ?_); rintro e w12 ⟨rfl, u12⟩)
    | (go_at_call 12; refine (t12 _).mono ?_; rintro e w13 ⟨rfl, u13⟩))
  go_ret
  exact ⟨rfl, (((((u1.out.trans u2.out).trans u3.out).trans u6.out).trans u9.out).trans u12.out).trans u13.out⟩
end Go.Proofs.Ytoncdgkcmbainaa

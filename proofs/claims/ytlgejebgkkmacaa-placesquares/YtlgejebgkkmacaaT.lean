/- The magnitude of a complex number. -/
import Derived.Test.YtlgejebgkkmacaaS
namespace Go.Proofs.Ytlgejebgkkmacaa
open Go.ChangeShapes Go.WideShapes Go.ChangeAt Go.RowKit Go.Fl Ieee
attribute [local go_sem] run_store_float run_store_complex call39 call50 run_neg fold_eq fold_ne fold_lt fold_gt abs_eq

/-- The root, all NaN being one. -/
def sqrtF (o : Option Nat) : Option Nat := o.bind double.sqrt
theorem sqrt_num {x r : Nat} (h : double.sqrt x = some r) : isN r = false := by
  unfold Format.sqrt at h
  rw [Option.map_eq_some_iff] at h
  obtain ⟨d, hd, rfl⟩ := h
  refine write_ok ?_
  unfold Datum.root at hd
  split at hd
  · cases hd
  · split at hd <;> cases hd; rfl
  · split at hd
    · cases hd; rfl
    · split at hd
      · cases hd
      · cases hd; rfl
theorem sqrt_nan {x : Nat} (h : isN x = true) : double.sqrt x = none := by
  obtain ⟨s, f, e⟩ := read_nan h
  unfold Format.sqrt
  rw [e]; rfl
def sqrtS (x : Nat) : Sem Value :=
  match FloatKind.f64.format.sqrt x with
  | some r => pure (.float .f64 r)
  | none => do pure (.float .f64 (← choose (.nanBits .f64 x x)))
theorem sqrt_of (x : Nat) : Extern.MathSqrt.sqrt #[.float .f64 x] = sqrtS x := rfl
theorem run_sqrt {P : Program} (x : Nat) (w : World) : ∃ r n, (Extern.MathSqrt.sqrt #[.float .f64 x]).run P w = .ok (.float .f64 r) (w.drewN n) ∧ ab r = sqrtF (ab x) := by
  rw [sqrt_of]
  cases hb : double.sqrt x with
  | some r =>
    refine ⟨r, 0, ?_, ?_⟩
    · have h' : FloatKind.f64.format.sqrt x = some r := hb
      simp only [sqrtS, h']; rfl
    · rw [ab_some (sqrt_num hb)]
      cases hN : isN x with
      | true => rw [sqrt_nan hN] at hb; cases hb
      | false => rw [ab_some hN]; exact hb.symm
  | none =>
    refine ⟨(Question.nanBits .f64 x x).cut (w.tape w.drawn (.nanBits .f64 x x)), 1, ?_, ?_⟩
    · have h' : FloatKind.f64.format.sqrt x = none := hb
      simp [sqrtS, h', choose, Sem.run, Question.forced, World.drewN]
    · rw [ab_none (cut_nan ..)]
      cases hN : isN x with
      | true => rw [ab_none hN]; rfl
      | false => rw [ab_some hN]; exact hb.symm
theorem upon67 {o : Oper} {a : Act} {next : Act → World → Prop} {Q : Exit → Act → World → Prop} {x : Nat} {w : World}
    (hk : ∀ r n, Hid (ab r = sqrtF (ab x)) → o.upon Try.prog a next Q (.ok (.value (.float .f64 r)) (w.drewN n))) :
    o.upon Try.prog a next Q ((callFunc 67 #[.float .f64 x]).run Try.prog w) := by
  rw [run_callFunc_extern Try.func67 (by kernel_rfl) (by kernel_rfl) (by kernel_rfl) (e := Extern.MathSqrt.sqrt) (by kernel_rfl)]
  obtain ⟨r, n, e, hr⟩ := run_sqrt (P := Try.prog) x w
  rw [e]
  exact hk r n hr
theorem t55 (x : Nat) (w : World) : Calls Try.prog 55 #[.float .f64 x] w (FR w (sqrtF (ab x))) := by
  go_enter Try.func55, Try.ntmps55
  go_wp2_with (refine upon67 ?_; intro r n hr)
  go_ret
  exact ⟨_, _, rfl, rfl, hr⟩
theorem t54 (w : World) : Calls Try.prog 54 #[.int .i64 1] w fun e w' => e = .returned (.float .f64 9218868437227405312) ∧ w' = w := by
  go_enter Try.func54, Try.ntmps54
  go_wp2
  go_ret
  exact ⟨rfl, rfl⟩
/-- Endless? No number? -/
def infF (x : Option Nat) : Bool := gtF (x.map abs) (ab 9218868437227405311)
def nanF (x : Option Nat) : Bool := !eqF x x
def kindF (a b : Option Nat) : Int := if infF a || infF b then 1 else if nanF a || nanF b then 2 else 0
theorem t53 (a b : Nat) (w : World) : Calls Try.prog 53 #[.complex .f64 a b] w fun e w' => e = .returned (.int .i8 (kindF (ab a) (ab b))) ∧ w' = w := by
  go_enter Try.func53, Try.ntmps53
  go_wp2_with (first
    | (go_at_call 40; (with_reducible refine (t40 _ _).mono ?_); rintro e w' ⟨rfl, rfl⟩)
    | (go_at_call 41; (with_reducible refine (t41 _ _).mono ?_); rintro e w' ⟨rfl, rfl⟩))
  all_goals (go_ret; go_tidy; refine ⟨?_, rfl⟩; simp_all [kindF, infF, nanF])
/-- The magnitude by the greater part m and the lesser one n. -/
def magF (m n : Option Nat) : Option Nat := if eqF m (ab 0) then ab 0 else bin .mul m (sqrtF (bin .add (ab 4607182418800017408) (bin .mul (bin .quo n m) (bin .quo n m))))
def absF (a b : Option Nat) : Option Nat :=
  if kindF a b = 1 then ab 9218868437227405312 else if kindF a b = 2 then none else
  if ltF (a.map abs) (b.map abs) then magF (b.map abs) (a.map abs) else magF (a.map abs) (b.map abs)
theorem kind_cases (a b : Option Nat) : kindF a b = 1 ∨ kindF a b = 2 ∨ kindF a b = 0 := by
  unfold kindF; split
  · exact Or.inl rfl
  · split
    · exact Or.inr (Or.inl rfl)
    · exact Or.inr (Or.inr rfl)
theorem t53k {a b : Nat} {k : Int} (h : kindF (ab a) (ab b) = k) (w : World) : Calls Try.prog 53 #[.complex .f64 a b] w fun e w' => e = .returned (.int .i8 k) ∧ w' = w := by
  rw [← h]; exact t53 a b w
theorem t30 (a b : Nat) (w : World) : Calls Try.prog 30 #[.complex .f64 a b] w (FR w (absF (ab a) (ab b))) := by
  rcases kind_cases (ab a) (ab b) with hk | hk | hk
  all_goals
    have HK : Hid (kindF (ab a) (ab b) = _) := hk
    unfold absF
    simp only [hk]
    clear hk
    go_enter Try.func30, Try.ntmps30
    go_wp2_with (first
      | ((with_reducible refine upon_fl (by simp) ?_); intro r n hr)
      | (go_at_call 53; (with_reducible refine (t53k HK.out _).mono ?_); rintro e w' ⟨rfl, rfl⟩)
      | (go_at_call 54; (with_reducible refine (t54 _).mono ?_); rintro e w' ⟨rfl, rfl⟩)
      | (go_at_call 27; (with_reducible refine (t27 _).mono ?_); rintro e w' ⟨rfl, rfl⟩)
      | (go_at_call 25; (with_reducible refine (t25 _ _).mono ?_); rintro e w' ⟨rfl, rfl⟩)
      | (go_at_call 55; (with_reducible refine (t55 _ _).mono ?_); rintro e w' ⟨r, n, rfl, rfl, hr⟩))
    all_goals (go_ret; go_tidy; first | refine FR.mkN ?_ | refine FR.mk0 ?_)
  all_goals (try simp_all [magF, Hid, ab_abs])
  all_goals rfl
end Go.Proofs.Ytlgejebgkkmacaa

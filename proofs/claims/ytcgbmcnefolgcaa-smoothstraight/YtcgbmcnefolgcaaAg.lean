/- == on states; the closed calls of wakes. -/
import Derived.Test.YtcgbmcnefolgcaaAc
import Derived.Test.YtcgbmcnefolgcaaAf
namespace Go.Proofs.Ytcgbmcnefolgcaa
open Go.ChangeShapes Go.WideShapes Go.ChangeAt Go.RowKit Go.Fl Ieee
attribute [local go_sem] run_store_float call22 call54 run_neg fold_eq fold_ne fold_lt fold_gt abs_eq

theorem fields27 : Try.prog.underlying 27 = some (.struct (Try.prog.fieldsOf 27)) := by kernel_rfl
theorem held27 : Try.prog.stoodInHeld 27 = false := by kernel_rfl
theorem guard27 : Try.prog.eqGuardType Try.prog.depth 27 = false := by kernel_rfl
theorem run_equalIn_float (d : Nat) (a b : Nat) (w : World) : (Op.equalIn (d + 1) 24 (.float .f64 a) (.float .f64 b)).run Try.prog w = .ok (eqF (ab a) (ab b)) w := by
  simp [Op.equalIn, run_underlying Try.underlying24, ← fold_eq]
  rfl
/-- Are two states ==? -/
def eqS (s t : S5) : Bool := eqF s.x t.x && eqF s.v t.v && eqF s.a t.a && eqF s.b t.b && eqF s.c t.c
set_option maxRecDepth 20000 in
theorem eq_fields27 (x v a b c x' v' a' b' c' : Nat) (w : World) : (Op.equalIn 10000 27 (.agg #[.float .f64 x, .float .f64 v, .float .f64 a, .float .f64 b, .float .f64 c]) (.agg #[.float .f64 x', .float .f64 v', .float .f64 a', .float .f64 b', .float .f64 c'])).run Try.prog w = .ok (eqS ⟨ab x, ab v, ab a, ab b, ab c⟩ ⟨ab x', ab v', ab a', ab b', ab c'⟩) w := by
  have u3 := Try.underlying24
  have a3 := Try.isAgg24
  have z3 := Try.sizeOf24
  rw [show (10000 : Nat) = 9999 + 1 from rfl, run_equalIn_agg w 9999 27 _ _ fields27 held27]
  simp only [Program.fieldsOf, Try.underlying27]
  go_simp
  rw [show (9999 : Nat) = 9998 + 1 from rfl]
  simp only [run_equalIn_float, Result.andThen_ok]
  unfold eqS
  cases eqF (ab x) (ab x') <;> cases eqF (ab v) (ab v') <;> cases eqF (ab a) (ab a') <;> cases eqF (ab b) (ab b') <;> cases eqF (ab c) (ab c') <;> rfl
theorem eql27 (x v a b c x' v' a' b' c' : Nat) (w : World) : (binOp .eql 27 (.agg #[.float .f64 x, .float .f64 v, .float .f64 a, .float .f64 b, .float .f64 c]) (.agg #[.float .f64 x', .float .f64 v', .float .f64 a', .float .f64 b', .float .f64 c'])).run Try.prog w = .ok (.bool (eqS ⟨ab x, ab v, ab a, ab b, ab c⟩ ⟨ab x', ab v', ab a', ab b', ab c'⟩)) w := by
  rw [run_eql_struct, eq_fields27]; rfl
theorem SR.exact {w w' : World} {s : S5} {e : Ending} {x v a b c : Nat} (h : SR w s e w') (hs : s.x = some x ∧ s.v = some v ∧ s.a = some a ∧ s.b = some b ∧ s.c = some c) : SE w x v a b c e w' := by
  obtain ⟨x', v', a', b', c', rfl, h1, h2⟩ := h
  obtain ⟨e1, e2, e3, e4, e5⟩ := h1.out
  obtain ⟨s1, s2, s3, s4, s5⟩ := hs
  obtain rfl := of_ab (e1.trans s1)
  obtain rfl := of_ab (e2.trans s2)
  obtain rfl := of_ab (e3.trans s3)
  obtain rfl := of_ab (e4.trans s4)
  obtain rfl := of_ab (e5.trans s5)
  exact ⟨rfl, h2⟩
theorem k14 (w : World) : Calls Try.prog 26 #[.agg #[.float .f64 4621819117588971520, .float .f64 0, .float .f64 4616189618054758400, .float .f64 0, .float .f64 4607182418800017408], .float .f64 4611686018427387904, .float .f64 4604930618986332160] w (SE w 4621819117588971520 0 4621819117588971520 4615063718147915776 4612811918334230528) :=
  (t26 _ _ _ _ _ _ _ w).mono fun _ _ h => h.exact (by decide +kernel)
theorem k16 (w : World) : Calls Try.prog 27 #[.agg #[.float .f64 4621819117588971520, .float .f64 0, .float .f64 4621819117588971520, .float .f64 4615063718147915776, .float .f64 4612811918334230528], .float .f64 4624070917402656768, .float .f64 4618441417868443648] w (SE w 4623226492472524800 4606056518893174784 4615626668101337088 4608589793683570688 4610489749776367616) :=
  (t27 _ _ _ _ _ _ _ w).mono fun _ _ h => h.exact (by decide +kernel)
theorem k12 (w : World) : Calls Try.prog 23 #[.agg #[.float .f64 4621819117588971520, .float .f64 0, .float .f64 4616189618054758400, .float .f64 0, .float .f64 4607182418800017408]] w (BU w true) :=
  (t23 _ _ _ _ _ w).mono fun _ _ h => by
    have e : mayF ⟨ab 4621819117588971520, ab 0, ab 4616189618054758400, ab 0, ab 4607182418800017408⟩ = true := by decide +kernel
    rw [e] at h; exact h
theorem k12n (w : World) : Calls Try.prog 23 #[.agg #[.float .f64 0, .float .f64 0, .float .f64 13830554455654793216, .float .f64 0, .float .f64 0]] w (BU w false) :=
  (t23 _ _ _ _ _ w).mono fun _ _ h => by
    have e : mayF ⟨ab 0, ab 0, ab 13830554455654793216, ab 0, ab 0⟩ = false := by decide +kernel
    rw [e] at h; exact h
end Go.Proofs.Ytcgbmcnefolgcaa

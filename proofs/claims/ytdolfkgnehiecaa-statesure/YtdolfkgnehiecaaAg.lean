/- == on states; the closed calls of wakes. -/
import Derived.Test.YtdolfkgnehiecaaAc
import Derived.Test.YtdolfkgnehiecaaAf
namespace Go.Proofs.Ytdolfkgnehiecaa
open Go.ChangeShapes Go.WideShapes Go.ChangeAt Go.RowKit Go.Fl Ieee
attribute [local go_sem] run_store_float call28 call35 run_neg fold_eq fold_ne fold_lt fold_gt abs_eq

theorem fields24 : Try.prog.underlying 24 = some (.struct (Try.prog.fieldsOf 24)) := by kernel_rfl
theorem held24 : Try.prog.stoodInHeld 24 = false := by kernel_rfl
theorem guard24 : Try.prog.eqGuardType Try.prog.depth 24 = false := by kernel_rfl
theorem run_equalIn_float (d : Nat) (a b : Nat) (w : World) : (Op.equalIn (d + 1) 22 (.float .f64 a) (.float .f64 b)).run Try.prog w = .ok (eqF (ab a) (ab b)) w := by
  simp [Op.equalIn, run_underlying Try.underlying22, ← fold_eq]
  rfl
/-- Are two states ==? -/
def eqS (s t : S5) : Bool := eqF s.x t.x && eqF s.v t.v && eqF s.a t.a && eqF s.b t.b && eqF s.c t.c
set_option maxRecDepth 20000 in
theorem eq_fields24 (x v a b c x' v' a' b' c' : Nat) (w : World) : (Op.equalIn 10000 24 (.agg #[.float .f64 x, .float .f64 v, .float .f64 a, .float .f64 b, .float .f64 c]) (.agg #[.float .f64 x', .float .f64 v', .float .f64 a', .float .f64 b', .float .f64 c'])).run Try.prog w = .ok (eqS ⟨ab x, ab v, ab a, ab b, ab c⟩ ⟨ab x', ab v', ab a', ab b', ab c'⟩) w := by
  have u3 := Try.underlying22
  have a3 := Try.isAgg22
  have z3 := Try.sizeOf22
  rw [show (10000 : Nat) = 9999 + 1 from rfl, run_equalIn_agg w 9999 24 _ _ fields24 held24]
  simp only [Program.fieldsOf, Try.underlying24]
  go_simp
  rw [show (9999 : Nat) = 9998 + 1 from rfl]
  simp only [run_equalIn_float, Result.andThen_ok]
  unfold eqS
  cases eqF (ab x) (ab x') <;> cases eqF (ab v) (ab v') <;> cases eqF (ab a) (ab a') <;> cases eqF (ab b) (ab b') <;> cases eqF (ab c) (ab c') <;> rfl
theorem eql24 (x v a b c x' v' a' b' c' : Nat) (w : World) : (binOp .eql 24 (.agg #[.float .f64 x, .float .f64 v, .float .f64 a, .float .f64 b, .float .f64 c]) (.agg #[.float .f64 x', .float .f64 v', .float .f64 a', .float .f64 b', .float .f64 c'])).run Try.prog w = .ok (.bool (eqS ⟨ab x, ab v, ab a, ab b, ab c⟩ ⟨ab x', ab v', ab a', ab b', ab c'⟩)) w := by
  rw [run_eql_struct, eq_fields24]; rfl
theorem SR.exact {w w' : World} {s : S5} {e : Ending} {x v a b c : Nat} (h : SR w s e w') (hs : s.x = some x ∧ s.v = some v ∧ s.a = some a ∧ s.b = some b ∧ s.c = some c) : SE w x v a b c e w' := by
  obtain ⟨x', v', a', b', c', rfl, h1, h2⟩ := h
  obtain ⟨e1, e2, e3, e4, e5⟩ := h1.out
  obtain ⟨s1, s2, s3, s4, s5⟩ := hs
  obtain rfl := of_ab (e1.trans s1)
  obtain rfl := of_ab (e2.trans s2)
  obtain rfl := of_ab (e3.trans s3)
  obtain rfl := of_ab (e4.trans s4)
  obtain rfl := of_ab (e5.trans s5)
  exact ⟨rfl, h2⟩
theorem k14 (w : World) : Calls Try.prog 14 #[.agg #[.float .f64 4621819117588971520, .float .f64 0, .float .f64 4616189618054758400, .float .f64 0, .float .f64 4607182418800017408], .float .f64 4611686018427387904, .float .f64 4604930618986332160] w (SE w 4621819117588971520 0 4621819117588971520 4615063718147915776 4612811918334230528) :=
  (t14 _ _ _ _ _ _ _ w).mono fun _ _ h => h.exact (by decide +kernel)
theorem k16 (w : World) : Calls Try.prog 16 #[.agg #[.float .f64 4621819117588971520, .float .f64 0, .float .f64 4621819117588971520, .float .f64 4615063718147915776, .float .f64 4612811918334230528], .float .f64 4624070917402656768, .float .f64 4618441417868443648] w (SE w 4623226492472524800 4606056518893174784 4615626668101337088 4608589793683570688 4610489749776367616) :=
  (t16 _ _ _ _ _ _ _ w).mono fun _ _ h => h.exact (by decide +kernel)
theorem k10 (w : World) : Calls Try.prog 10 #[.agg #[.float .f64 4621819117588971520, .float .f64 0, .float .f64 4621819117588971520, .float .f64 4615063718147915776, .float .f64 4612811918334230528], .float .f64 4624070917402656768, .float .f64 4618441417868443648] w fun e w' => e = .returned (.float .f64 4607182418800017408) ∧ Hid (Up w w') :=
  (t10 _ _ _ _ _ _ _ w).mono fun _ _ ⟨r, h1, h2, h3⟩ => ⟨by rw [h1, of_ab (h2.out.trans (by decide +kernel : _ = some 4607182418800017408))], h3⟩
theorem k12 (w : World) : Calls Try.prog 12 #[.agg #[.float .f64 4621819117588971520, .float .f64 0, .float .f64 4616189618054758400, .float .f64 0, .float .f64 4607182418800017408]] w (BU w true) :=
  (t12 _ _ _ _ _ w).mono fun _ _ h => by
    have e : mayF ⟨ab 4621819117588971520, ab 0, ab 4616189618054758400, ab 0, ab 4607182418800017408⟩ = true := by decide +kernel
    rw [e] at h; exact h
theorem k12n (w : World) : Calls Try.prog 12 #[.agg #[.float .f64 0, .float .f64 0, .float .f64 13830554455654793216, .float .f64 0, .float .f64 0]] w (BU w false) :=
  (t12 _ _ _ _ _ w).mono fun _ _ h => by
    have e : mayF ⟨ab 0, ab 0, ab 13830554455654793216, ab 0, ab 0⟩ = false := by decide +kernel
    rw [e] at h; exact h
end Go.Proofs.Ytdolfkgnehiecaa

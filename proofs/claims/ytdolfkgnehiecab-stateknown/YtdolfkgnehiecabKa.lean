/- The law StateKnown: the closed calls. -/
import Derived.Test.YtdolfkgnehiecabAh
import Derived.Test.YtdolfkgnehiecabLq
namespace Go.Proofs.Ytdolfkgnehiecab
open Go.ChangeShapes Go.WideShapes Go.ChangeAt Go.RowKit Go.Fl Ieee

theorem f7 (w : World) : Calls Try.prog 7 #[.agg #[.float .f64 0, .float .f64 0, .float .f64 0, .float .f64 0, .float .f64 0], .float .f64 4607182418800017408, .float .f64 0] w fun e w' => e = .returned (.float .f64 9218868437227405312) ∧ Hid (Up w w') :=
  (t7 _ _ _ _ _ _ _ w).mono fun _ _ ⟨r, h1, h2, h3⟩ => ⟨by rw [h1, of_ab (h2.out.trans (by decide +kernel : _ = some 9218868437227405312))], h3⟩
theorem f7n (w : World) : Calls Try.prog 7 #[.agg #[.float .f64 4621819117588971520, .float .f64 0, .float .f64 4616189618054758400, .float .f64 0, .float .f64 4607182418800017408], .float .f64 9221120237041090561, .float .f64 4607182418800017408] w fun e w' => ∃ r, e = .returned (.float .f64 r) ∧ ab r = none ∧ Hid (Up w w') :=
  (t7 _ _ _ _ _ _ _ w).mono fun _ _ ⟨r, h1, h2, h3⟩ => ⟨r, h1, h2.out.trans (by decide +kernel), h3⟩
theorem a1 (w : World) : Calls Try.prog 8 #[.agg #[.float .f64 4621819117588971520, .float .f64 0, .float .f64 4616189618054758400, .float .f64 0, .float .f64 4607182418800017408], .float .f64 0, .float .f64 4621256167635550208] w (SE w 4621819117588971520 0 4616189618054758400 0 4607182418800017408) :=
  (t8 _ _ _ _ _ _ _ w).mono fun _ _ h => h.exact (by decide +kernel)
theorem a2 (w : World) : Calls Try.prog 8 #[.agg #[.float .f64 4621819117588971520, .float .f64 0, .float .f64 4616189618054758400, .float .f64 0, .float .f64 4607182418800017408], .float .f64 9221120237041090561, .float .f64 4621256167635550208] w (SE w 4621819117588971520 0 4616189618054758400 0 4607182418800017408) :=
  (t8 _ _ _ _ _ _ _ w).mono fun _ _ h => h.exact (by decide +kernel)
theorem s1 (w : World) : Calls Try.prog 9 #[.agg #[.float .f64 0, .float .f64 0, .float .f64 0, .float .f64 0, .float .f64 0], .float .f64 4617315517961601024, .float .f64 0] w (SE w 0 0 0 0 0) :=
  (t9 _ _ _ _ _ _ _ w).mono fun _ _ h => h.exact (by decide +kernel)
theorem m1 (w : World) : Calls Try.prog 10 #[.agg #[.float .f64 9218868437227405312, .float .f64 0, .float .f64 0, .float .f64 0, .float .f64 0]] w (BU w false) :=
  (t10 _ _ _ _ _ w).mono fun _ _ h => by
    have e : mayF ⟨ab 9218868437227405312, ab 0, ab 0, ab 0, ab 0⟩ = false := by decide +kernel
    rw [e] at h; exact h
theorem m2 (w : World) : Calls Try.prog 10 #[.agg #[.float .f64 0, .float .f64 0, .float .f64 0, .float .f64 9221120237041090561, .float .f64 0]] w (BU w false) :=
  (t10 _ _ _ _ _ w).mono fun _ _ h => by
    have e : mayF ⟨ab 0, ab 0, ab 0, ab 9221120237041090561, ab 0⟩ = false := by decide +kernel
    rw [e] at h; exact h
theorem m3 (w : World) : Calls Try.prog 10 #[.agg #[.float .f64 0, .float .f64 0, .float .f64 0, .float .f64 0, .float .f64 13830554455654793216]] w (BU w false) :=
  (t10 _ _ _ _ _ w).mono fun _ _ h => by
    have e : mayF ⟨ab 0, ab 0, ab 0, ab 0, ab 13830554455654793216⟩ = false := by decide +kernel
    rw [e] at h; exact h
theorem m4 (w : World) : Calls Try.prog 10 #[.agg #[.float .f64 0, .float .f64 0, .float .f64 4607182418800017408, .float .f64 4611686018427387904, .float .f64 4607182418800017408]] w (BU w true) :=
  (t10 _ _ _ _ _ w).mono fun _ _ h => by
    have e : mayF ⟨ab 0, ab 0, ab 4607182418800017408, ab 4611686018427387904, ab 4607182418800017408⟩ = true := by decide +kernel
    rw [e] at h; exact h
theorem m5 (w : World) : Calls Try.prog 10 #[.agg #[.float .f64 0, .float .f64 0, .float .f64 0, .float .f64 0, .float .f64 0]] w (BU w true) :=
  (t10 _ _ _ _ _ w).mono fun _ _ h => by
    have e : mayF ⟨ab 0, ab 0, ab 0, ab 0, ab 0⟩ = true := by decide +kernel
    rw [e] at h; exact h
theorem a3 (w : World) : Calls Try.prog 8 #[.agg #[.float .f64 0, .float .f64 0, .float .f64 4607182418800017408, .float .f64 13830554455654793216, .float .f64 4607182418800017408], .float .f64 4607182418800017408, .float .f64 0] w (SE w 0 0 0 0 4607182418800017408) :=
  (t8 _ _ _ _ _ _ _ w).mono fun _ _ h => h.exact (by decide +kernel)
theorem a4 (w : World) : Calls Try.prog 8 #[.agg #[.float .f64 0, .float .f64 0, .float .f64 4607182418800017408, .float .f64 13835058055282163712, .float .f64 4607182418800017408], .float .f64 4607182418800017408, .float .f64 0] w (SE w 0 0 0 13830554455654793216 4607182418800017408) :=
  (t8 _ _ _ _ _ _ _ w).mono fun _ _ h => h.exact (by decide +kernel)
theorem s2 (w : World) : Calls Try.prog 9 #[.agg #[.float .f64 0, .float .f64 0, .float .f64 4607182418800017408, .float .f64 4611686018427387904, .float .f64 4607182418800017408], .float .f64 4613937818241073152, .float .f64 4607182418800017408] w (SE w 4609434218613702656 4613937818241073152 4602678819172646912 4607182418800017408 0) :=
  (t9 _ _ _ _ _ _ _ w).mono fun _ _ h => h.exact (by decide +kernel)
theorem s3 (w : World) : Calls Try.prog 9 #[.agg #[.float .f64 0, .float .f64 0, .float .f64 4336966441157787648, .float .f64 0, .float .f64 0], .float .f64 4613937818241073152, .float .f64 4607182418800017408] w (SE w 4343721840598843392 0 4336966441157787648 0 0) :=
  (t9 _ _ _ _ _ _ _ w).mono fun _ _ h => h.exact (by decide +kernel)
theorem a5 (w : World) : Calls Try.prog 8 #[.agg #[.float .f64 0, .float .f64 4613937818241073152, .float .f64 0, .float .f64 0, .float .f64 0], .float .f64 4611686018427387904, .float .f64 4618441417868443648] w (SE w 4618441417868443648 4613937818241073152 4625196817309499392 4622945017495814144 4622945017495814144) :=
  (t8 _ _ _ _ _ _ _ w).mono fun _ _ h => h.exact (by decide +kernel)
end Go.Proofs.Ytdolfkgnehiecab

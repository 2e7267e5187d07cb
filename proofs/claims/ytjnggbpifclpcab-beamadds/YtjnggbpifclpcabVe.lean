/- Aim, where it tells a bearing. -/
import Derived.Test.YtjnggbpifclpcabVd
namespace Go.Proofs.Ytjnggbpifclpcab
open Go.ChangeShapes Go.WideShapes Go.ChangeAt Go.RowKit Go.Fl Ieee
attribute [local go_sem] run_store_float run_store_complex call20 call19 run_neg fold_eq fold_ne fold_lt fold_gt abs_eq

/-- What the two elements tell: the sine, and the bearing. -/
def aimQ (l r : CN) (s : Option Nat) : Option Nat := bin .quo (angleF (mulC r (conjC l)).1 (mulC r (conjC l)).2) s
def aimF (q : Option Nat) : Option Nat := angleF (sqrtF (bin .sub (ab 4607182418800017408) (bin .mul q q))) q
/-- What a call leaves that hands back a float and an error. -/
def FE (v : Option Nat) (c : Int) (w : World) (e : Ending) (w' : World) : Prop := ∃ r, e = .returned (.tuple #[.float .f64 r, .int .i64 c]) ∧ Hid (ab r = v) ∧ Hid (Up w w')
theorem ang_mul {p q a b c d : Nat} (hp : Hid (ab p = mulR (ab c) (ab d) (ab a) (ab (neg b)))) (hq : Hid (ab q = mulI (ab c) (ab d) (ab a) (ab (neg b)))) : angleF (ab p) (ab q) = angleF (mulC (ab c, ab d) (conjC (ab a, ab b))).1 (mulC (ab c, ab d) (conjC (ab a, ab b))).2 := by
  rw [hp.out, hq.out, ab_neg]
  rfl
set_option maxHeartbeats 4000000 in
set_option maxRecDepth 20000 in
theorem t13ok {w : World} {a b c d s : Nat} (h1 : kindF (ab a) (ab b) = 0) (h2 : kindF (ab c) (ab d) = 0) (h3 : fin (ab s) = true) (h4 : gtF (ab s) (ab 0) = true) (h5 : eqF (aimQ (ab a, ab b) (ab c, ab d) (ab s)) (aimQ (ab a, ab b) (ab c, ab d) (ab s)) = true) (h6 : gtF ((aimQ (ab a, ab b) (ab c, ab d) (ab s)).map abs) (ab 4607182418800017408) = false) :
    Calls Try.prog 13 #[.complex .f64 a b, .complex .f64 c d, .float .f64 s] w (FE (aimF (aimQ (ab a, ab b) (ab c, ab d) (ab s))) 0 w) := by
  obtain ⟨Q, hQ⟩ : ∃ Q, aimQ (ab a, ab b) (ab c, ab d) (ab s) = Q := ⟨_, rfl⟩
  rw [hQ] at h5 h6 ⊢
  have HQ : Hid (∀ p q : Nat, Hid (ab p = mulR (ab c) (ab d) (ab a) (ab (neg b))) → Hid (ab q = mulI (ab c) (ab d) (ab a) (ab (neg b))) → ∀ t, ab t = angleF (ab p) (ab q) → bin .quo (ab t) (ab s) = Q) := fun p q hp hq t ht => by
    rw [ht, ang_mul hp hq]; exact hQ
  have H1 : Hid (kindF (ab a) (ab b) = 0) := h1
  have H2 : Hid (kindF (ab c) (ab d) = 0) := h2
  have H3 : Hid (finL #[s] = true) := fin_one' h3
  have H5 : Hid (eqF Q Q = true) := h5
  have H6 : Hid (gtF (Q.map abs) (ab 4607182418800017408) = false) := h6
  clear h1 h2 h3 h5 h6 hQ
  go_enter Try.func13, Try.ntmps13
  go_wp2_with (first
    | (go_at_call 26; (with_reducible refine (t26k H1.out _).mono ?_); rintro e w' ⟨rfl, hw⟩; subst w')
    | (go_at_call 26; (with_reducible refine (t26k H2.out _).mono ?_); rintro e w' ⟨rfl, hw⟩; subst w')
    | (go_at_call 21; (with_reducible refine (t21k (FV.one _ _ _) (by omega) H3.out).mono ?_); rintro e w' ⟨rfl, hw⟩; subst w')
    | (go_at_call 25; (with_reducible refine (t25 _ _ _).mono ?_); rintro e w' ⟨rfl, hw⟩; subst w')
    | (go_at_call 31; (with_reducible refine (t31 _ _ _ _ _).mono ?_); rintro e w2 ⟨p, q, k2, rfl, rfl, hp, hq⟩)
    | (go_at_call 30; (with_reducible refine (t30 _ _ _).mono ?_); rintro e w3 ⟨t, rfl, ht, hu3⟩)
    | (go_at_call 9; (with_reducible refine (t9 _ _).mono ?_); rintro e w' ⟨rfl, hw⟩; subst w')
    | (go_at_call 29; (with_reducible refine (t29 _ _).mono ?_); rintro e w4 ⟨v, k4, rfl, rfl, hv⟩)
    | ((with_reducible refine upon_fl (by simp) ?_); intro r n hr; (have HR : Hid (ab r = Q) := hr.out.trans (HQ.out p q hp hq t ht.out)); (have hE : eqF (ab r) (ab r) = true := by rw [HR.out]; exact H5.out); (have hG : gtF (ab (abs r)) (ab 4607182418800017408) = false := by rw [ab_abs, HR.out]; exact H6.out))
    | ((with_reducible refine upon_fl (by simp) ?_); intro r2 n2 hr2))
  rename_i w3a ta hta hu3a r2a n2a hr2a
  go_ret2
  refine ⟨t, rfl, ?_, ((((Up.alloc _ _).trans (Up.drewN _ _)).trans hu3a).trans (Up.drewN _ _)).trans hu3⟩
  show _ = angleF _ _
  rw [ht.out, hv.out, hr2.out, hr2a.out, HR.out]
end Go.Proofs.Ytjnggbpifclpcab

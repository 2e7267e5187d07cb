/- The magnitude of good points is near 1: the walks of cplx.Abs and of near1. -/
import Derived.Test.YtoncdgkcmbainabFz
import Derived.Test.YtoncdgkcmbainabV
namespace Go.Proofs.Ytoncdgkcmbainab
open Go.ChangeShapes Go.WideShapes Go.ChangeAt Go.RowKit Go.Fl Ieee
attribute [local go_sem] run_store_float run_store_complex call12 call18 run_neg fold_eq fold_ne fold_lt fold_gt abs_eq

theorem bin_of {op : BinOp} {x y r v : Nat} (hx : Fnt x) (hy : Fnt y) (h : bin op (some x) (some y) = some r) (hv : Hid (ab v = bin op (ab x) (ab y))) : v = r := by
  have := hv.out
  rw [Fnt.ab hx, Fnt.ab hy, h] at this
  exact of_ab this
/-- What stands in for math.sqrt, the question that it asks at a NaN left open. -/
def sqrtS (q : Sem Value) (x : Nat) : Sem Value :=
  match FloatKind.f64.format.sqrt x with
  | some r => pure (.float .f64 r)
  | none => q
theorem sqrt_of (x : Nat) : ∃ q, Extern.MathSqrt.sqrt #[.float .f64 x] = sqrtS q x := ⟨_, rfl⟩
theorem call41s {x r : Nat} (h : double.sqrt x = some r) (w : World) : (callFunc 41 #[.float .f64 x]).run Try.prog w = .ok (.value (.float .f64 r)) w := by
  rw [run_callFunc_extern Try.func41 (by kernel_rfl) (by kernel_rfl) (by kernel_rfl) (e := Extern.MathSqrt.sqrt) (by kernel_rfl)]
  obtain ⟨q, hq⟩ := sqrt_of x
  rw [hq]
  have h' : FloatKind.f64.format.sqrt x = some r := h
  unfold sqrtS
  rw [h']
  rfl
theorem t33 {x r : Nat} (h : double.sqrt x = some r) (w : World) : Calls Try.prog 33 #[.float .f64 x] w fun e w' => e = .returned (.float .f64 r) ∧ w' = w := by
  have hc := call41s h
  go_enter Try.func33, Try.ntmps33
  go_wp2
  go_ret
  exact ⟨rfl, rfl⟩
theorem fin_parts {x : Nat} (h : Fnt x) : eqF (ab x) (ab x) = !false ∧ gtF ((ab x).map Go.Fl.abs) (ab 9218868437227405311) = false := by
  have := fin_of h
  unfold fin at this
  rw [Bool.and_eq_true, Bool.not_eq_true'] at this
  exact this
theorem t31f {c s : Nat} (hc : Fnt c) (hs : Fnt s) (w : World) : Calls Try.prog 31 #[.complex .f64 c s] w fun e w' => e = .returned (.int .i8 0) ∧ w' = w := by
  have H1 : Hid (eqF (ab c) (ab c) = !false ∧ gtF ((ab c).map Go.Fl.abs) (ab 9218868437227405311) = false) := fin_parts hc
  have H2 : Hid (eqF (ab s) (ab s) = !false ∧ gtF ((ab s).map Go.Fl.abs) (ab 9218868437227405311) = false) := fin_parts hs
  go_enter Try.func31, Try.ntmps31
  go_wp2_with (first
    | (go_at_call 16; (with_reducible refine (t16k H1.out.2 _).mono ?_); rintro e w' ⟨rfl, rfl⟩)
    | (go_at_call 16; (with_reducible refine (t16k H2.out.2 _).mono ?_); rintro e w' ⟨rfl, rfl⟩)
    | (go_at_call 15; (with_reducible refine (t15k H1.out.1 _).mono ?_); rintro e w' ⟨rfl, rfl⟩)
    | (go_at_call 15; (with_reducible refine (t15k H2.out.1 _).mono ?_); rintro e w' ⟨rfl, rfl⟩))
  go_ret
  exact ⟨rfl, rfl⟩
/-- What Abs leaves of a good point: a float from which 1 is at most 16 * 2^-53 away. -/
def AR (w : World) (e : Ending) (w' : World) : Prop := ∃ A n D, e = .returned (.float .f64 A) ∧ w' = w.drewN n ∧ Hid (Fnt A ∧ bin .sub (some A) (some 4607182418800017408) = some D ∧ Fnt D ∧ val D ≤ 16 * u53 ∧ -(16 * u53) ≤ val D)
/-- The greater part is m, the lesser n. -/
def Parts (m n : Nat) : Prop := Fnt m ∧ Fnt n ∧ 0 ≤ val n ∧ val n ≤ val m ∧ Near (val m * val m + val n * val n) 1 (11 * u53)
theorem parts_of {c s : Nat} (h : Good c s) : (ltF (ab (Go.Fl.abs c)) (ab (Go.Fl.abs s)) = true ∧ Parts (Go.Fl.abs s) (Go.Fl.abs c)) ∨ (ltF (ab (Go.Fl.abs c)) (ab (Go.Fl.abs s)) = false ∧ Parts (Go.Fl.abs c) (Go.Fl.abs s)) := by
  have fc := fin_abs h.fc
  have fs := fin_abs h.fs
  have vc := vabs c
  have vs := vabs s
  have ac := absR_le (val c)
  have bc := absR_le (val s)
  have ec : val (Go.Fl.abs c) * val (Go.Fl.abs c) = val c * val c := by rw [vc]; unfold absR; split <;> grind
  have es : val (Go.Fl.abs s) * val (Go.Fl.abs s) = val s * val s := by rw [vs]; unfold absR; split <;> grind
  have hlt := ltF_val fc fs
  have hsum : Near (val (Go.Fl.abs c) * val (Go.Fl.abs c) + val (Go.Fl.abs s) * val (Go.Fl.abs s)) 1 (11 * u53) := by rw [ec, es]; exact h.near
  have p1 : 0 ≤ val (Go.Fl.abs c) := by rw [vc]; exact ac.2.2
  have p2 : 0 ≤ val (Go.Fl.abs s) := by rw [vs]; exact bc.2.2
  rw [hlt]
  by_cases hl : val (Go.Fl.abs c) < val (Go.Fl.abs s)
  · left
    refine ⟨by simp [hl], fs, fc, p1, by grind, ?_⟩
    rw [Rat.add_comm]; exact hsum
  · right
    exact ⟨by simp [hl], fc, fs, p2, by grind, hsum⟩
theorem parts_run {m n : Nat} (h : Parts m n) : eqF (ab m) (ab 0) = false ∧ ∃ v r A D, (∀ q t v', Hid (ab q = bin .quo (ab n) (ab m)) → Hid (ab t = bin .mul (ab q) (ab q)) → Hid (ab v' = bin .add (ab 4607182418800017408) (ab t)) → v' = v) ∧ double.sqrt v = some r ∧ (∀ a, Hid (ab a = bin .mul (ab m) (ab r)) → a = A) ∧ Fnt A ∧ bin .sub (some A) (some 4607182418800017408) = some D ∧ Fnt D ∧ val D ≤ 16 * u53 ∧ -(16 * u53) ≤ val D := by
  obtain ⟨fm, fn, h0, hmn, hQ⟩ := h
  obtain ⟨q, t, v, r, A, D, e1, e2, e3, fv, e4, e5, e6, fD, d1, d2, hm⟩ := abs_one fm fn h0 hmn hQ
  have hq := eqF_val fm fzero.1
  rw [fzero.2] at hq
  have numr : isN r = false := by
    have : double.sqrt v = some r := e4
    unfold Format.sqrt at this
    rw [Option.map_eq_some_iff] at this
    obtain ⟨d, hd, rfl⟩ := this
    refine write_ok ?_
    obtain ⟨s, mm, i, ex⟩ := fin_read fv
    rw [ex] at hd
    unfold Datum.root at hd
    split at hd
    · cases hd
    · split at hd <;> cases hd; rfl
    · split at hd
      · cases hd; rfl
      · split at hd
        · cases hd
        · cases hd; rfl
  have fA : Fnt A := by
    have hs : ∃ s k e, double.read A = .number s k e := by
      have hsub : double.sub A 4607182418800017408 = some D := e6
      unfold Format.sub at hsub
      cases hr : double.read A with
      | number s k e => exact ⟨s, k, e, rfl⟩
      | infinity s =>
        exfalso
        obtain ⟨s1, m1, i1, e1'⟩ := fin_read fone.1
        rw [hr, e1'] at hsub
        simp only [Datum.opposite, Datum.sum, Option.map_some, Option.some.injEq] at hsub
        have : D % 2 ^ 63 = 0x7ff0000000000000 := by
          rw [← hsub]
          show double.word s double.infRung % 2 ^ 63 = _
          have e3 : double.infRung = 0x7ff0000000000000 := rfl
          rw [e3, word_mod s _ (by omega)]
        unfold Fnt at fD
        omega
      | nan s f =>
        exfalso
        rw [hr] at hsub
        simp [sum_nanL] at hsub
    obtain ⟨s, k, e, hr⟩ := hs
    exact (read_num hr).2.1
  refine ⟨by rw [hq]; simp; grind, v, r, A, D, ?_, e4, ?_, fA, e6, fD, d1, d2⟩
  · intro q' t' v' h1 h2 h3
    have a1 := h1.out
    rw [Fnt.ab fm, Fnt.ab fn, e1] at a1
    obtain rfl := of_ab a1
    have a2 := h2.out
    rw [a1, e2] at a2
    obtain rfl := of_ab a2
    have a3 := h3.out
    rw [a2, Fnt.ab fone.1, e3] at a3
    exact of_ab a3
  · intro a ha
    have a1 := ha.out
    rw [Fnt.ab fm, ab_some numr, e5] at a1
    exact of_ab a1
set_option maxHeartbeats 1000000 in
theorem t21 {c s : Nat} (h : Good c s) (w : World) : Calls Try.prog 21 #[.complex .f64 c s] w (AR w) := by
  have HK : Hid (Fnt c ∧ Fnt s) := ⟨h.fc, h.fs⟩
  rcases parts_of h with ⟨hlt, hp⟩ | ⟨hlt, hp⟩
  all_goals
    obtain ⟨h0, v, r, A, D, k1, k2, k3, k4⟩ := parts_run hp
    have K1 : Hid _ := k1
    have K2 : Hid (double.sqrt v = some r) := k2
    have K3 : Hid _ := k3
    have K4 : Hid _ := k4
    clear k1 k2 k3 k4 hp h
    go_enter Try.func21, Try.ntmps21
    go_wp2_with (first
      | (go_at_call 31; refine (t31f HK.out.1 HK.out.2 _).mono ?_; rintro e w' ⟨rfl, rfl⟩)
      | (go_at_call 6; refine (t6 _ _).mono ?_; rintro e w' ⟨rfl, rfl⟩)
      | ((with_reducible refine upon_fl (by simp) ?_); intro x nx hx)
      | (go_at_call 33; obtain rfl := K1.out _ _ _ ‹_› ‹_› ‹_›; (with_reducible refine (t33 K2.out _).mono ?_); rintro e w' ⟨rfl, rfl⟩))
    go_ret
    obtain rfl := K3.out _ ‹_›
    exact ⟨_, _, D, rfl, rfl, K4.out⟩
end Go.Proofs.Ytoncdgkcmbainab

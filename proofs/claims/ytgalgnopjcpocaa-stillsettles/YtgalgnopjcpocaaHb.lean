/- StillSettles, as numbers: bounds, what is greatest and least. -/
import Derived.Test.YtgalgnopjcpocaaHa
import Derived.Test.YtgalgnopjcpocaaRb
namespace Go.Proofs.Ytgalgnopjcpocaa
open Go.ChangeShapes Go.WideShapes Go.ChangeAt Go.RowKit Go.Fl Ieee

theorem f900 : Fnt 8660422083433463808 ∧ val 8660422083433463808 = pw 900 := by
  refine ⟨by unfold Fnt; decide, ?_⟩
  have hr : double.read 8660422083433463808 = .number false 4503599627370496 848 := by decide +kernel
  rw [val_read hr, dv_false]
  have e : ((4503599627370496 : Nat) : Rat) = pw 52 := by decide +kernel
  rw [e, ← pw_add]; rfl
/-- At most 2^900: a finite number. -/
theorem le900 {x : Nat} (h : (ltF (ab (Go.Fl.abs x)) (ab 8660422083433463808) || eqF (ab (Go.Fl.abs x)) (ab 8660422083433463808)) = true) : Fnt x ∧ val x ≤ pw 900 ∧ -pw 900 ≤ val x := by
  have hN : isN (Go.Fl.abs x) = false := by
    cases q : isN (Go.Fl.abs x)
    · rfl
    · rw [ab_none q] at h
      simp [ltF, eqF, ord] at h
  have e1 : ord (ab (Go.Fl.abs x)) (ab 8660422083433463808) = some (compare (lin (Go.Fl.abs x)) (lin 8660422083433463808)) := by
    rw [← order_ab]; exact order_lin hN (by decide +kernel)
  have l1 : lin 8660422083433463808 = 8660422083433463808 := by decide +kernel
  have l3 : lin (Go.Fl.abs x) = ((x % 2 ^ 63 : Nat) : Int) := by
    have : Go.Fl.abs x < 2 ^ 63 := Nat.mod_lt _ (by decide)
    rw [lin_low this]; rfl
  have hle : ((x % 2 ^ 63 : Nat) : Int) ≤ 8660422083433463808 := by
    unfold ltF eqF at h
    rw [e1, l1, l3, Int.compare_eq_ite_lt] at h
    by_cases q : ((x % 2 ^ 63 : Nat) : Int) < 8660422083433463808
    · omega
    · rw [if_neg q] at h
      by_cases q2 : (8660422083433463808 : Int) < ((x % 2 ^ 63 : Nat) : Int)
      · rw [if_pos q2] at h; simp at h
      · omega
  have fx : Fnt x := by unfold Fnt; omega
  have fa := fin_abs fx
  rw [ltF_val fa f900.1, eqF_val fa f900.1, f900.2, vabs, Bool.or_eq_true, decide_eq_true_eq, decide_eq_true_eq] at h
  unfold absR at h
  have p := pw_pos 900
  refine ⟨fx, ?_, ?_⟩ <;> (split at h <;> grind)
theorem f1 : Fnt 4607182418800017408 ∧ val 4607182418800017408 = 1 := ⟨by unfold Fnt; decide, by decide +kernel⟩
theorem f0 : Fnt 0 ∧ val 0 = 0 := ⟨by unfold Fnt; decide, val0⟩
/-- A share: finite, from 0 to 1. -/
theorem share_val {s : Nat} (h : shareF (ab s) = true) : Fnt s ∧ 0 ≤ val s ∧ val s ≤ 1 := by
  unfold shareF at h
  rw [Bool.and_eq_true] at h
  obtain ⟨h1, h2⟩ := h
  have hN : isN s = false := by
    cases q : isN s
    · rfl
    · rw [ab_none q] at h1
      simp [gtF, eqF, ord] at h1
  have e0 : ord (ab s) (ab 0) = some (compare (lin s) (lin 0)) := by rw [← order_ab]; exact order_lin hN (by decide +kernel)
  have e1 : ord (ab s) (ab 4607182418800017408) = some (compare (lin s) (lin 4607182418800017408)) := by rw [← order_ab]; exact order_lin hN (by decide +kernel)
  have l0 : lin 0 = 0 := by decide +kernel
  have l1 : lin 4607182418800017408 = 4607182418800017408 := by decide +kernel
  have l4 : lin s = ((s % 2 ^ 63 : Nat) : Int) ∨ lin s = -((s % 2 ^ 63 : Nat) : Int) := by unfold lin sgn; split <;> simp
  have g0 : 0 ≤ lin s := by
    unfold gtF eqF at h1
    rw [e0, l0, Int.compare_eq_ite_lt] at h1
    by_cases q : lin s < 0
    · rw [if_pos q] at h1; simp at h1
    · omega
  have g1 : lin s ≤ 4607182418800017408 := by
    unfold ltF eqF at h2
    rw [e1, l1, Int.compare_eq_ite_lt] at h2
    by_cases q : lin s < 4607182418800017408
    · omega
    · rw [if_neg q] at h2
      by_cases q2 : (4607182418800017408 : Int) < lin s
      · rw [if_pos q2] at h2; simp at h2
      · omega
  have fs : Fnt s := by unfold Fnt; rcases l4 with l4 | l4 <;> omega
  rw [gtF_val fs f0.1, eqF_val fs f0.1, f0.2, Bool.or_eq_true, decide_eq_true_eq, decide_eq_true_eq] at h1
  rw [ltF_val fs f1.1, eqF_val fs f1.1, f1.2, Bool.or_eq_true, decide_eq_true_eq, decide_eq_true_eq] at h2
  exact ⟨fs, by grind, by grind⟩
/-- At least, at most. -/
theorem ge_of {x y : Nat} (fx : Fnt x) (fy : Fnt y) (h : val y ≤ val x) : (gtF (ab x) (ab y) || eqF (ab x) (ab y)) = true ∧ (gtF (ab x) (ab y) = true ∨ eqF (ab x) (ab y) = true) := by
  rw [gtF_val fx fy, eqF_val fx fy]
  rcases Decidable.em (val x = val y) with e | e
  · simp [e]
  · have : val y < val x := by grind
    simp [this]
theorem le_of {x y : Nat} (fx : Fnt x) (fy : Fnt y) (h : val x ≤ val y) : (ltF (ab x) (ab y) || eqF (ab x) (ab y)) = true ∧ (ltF (ab x) (ab y) = true ∨ eqF (ab x) (ab y) = true) := by
  rw [ltF_val fx fy, eqF_val fx fy]
  rcases Decidable.em (val x = val y) with e | e
  · simp [e]
  · have : val x < val y := by grind
    simp [this]
theorem max_run {P : Program} {x y : Nat} (fx : Fnt x) (fy : Fnt y) : ∃ r, (∀ (ts : Array TypeId) (t : TypeId) (w : World), (Builtin.max_ ts t #[.float .f64 x, .float .f64 y]).run P w = .ok (.float .f64 r) w) ∧ Fnt r ∧ val x ≤ val r ∧ val y ≤ val r ∧ (val r = val x ∨ val r = val y) := by
  have ho := ord_val fx fy
  rw [← order_ab] at ho
  rcases (show val x < val y ∨ val x = val y ∨ val y < val x by grind) with h | h | h
  · rw [if_pos h] at ho
    exact ⟨y, fun ts t w => by simp [Builtin.max_, Builtin.max2, ho], fy, by grind, by grind, Or.inr rfl⟩
  · rw [if_neg (by grind), if_pos h] at ho
    refine ⟨if (FloatKind.f64.decode x).neg then y else x, fun ts t w => by simp [Builtin.max_, Builtin.max2, ho], ?_⟩
    split
    · exact ⟨fy, by grind, by grind, Or.inr rfl⟩
    · exact ⟨fx, by grind, by grind, Or.inl rfl⟩
  · rw [if_neg (by grind), if_neg (by grind)] at ho
    exact ⟨x, fun ts t w => by simp [Builtin.max_, Builtin.max2, ho], fx, by grind, by grind, Or.inl rfl⟩
theorem min_run {P : Program} {x y : Nat} (fx : Fnt x) (fy : Fnt y) : ∃ r, (∀ (ts : Array TypeId) (t : TypeId) (w : World), (Builtin.min_ ts t #[.float .f64 x, .float .f64 y]).run P w = .ok (.float .f64 r) w) ∧ Fnt r ∧ val r ≤ val x ∧ val r ≤ val y ∧ (val r = val x ∨ val r = val y) := by
  have ho := ord_val fx fy
  rw [← order_ab] at ho
  rcases (show val x < val y ∨ val x = val y ∨ val y < val x by grind) with h | h | h
  · rw [if_pos h] at ho
    exact ⟨x, fun ts t w => by simp [Builtin.min_, Builtin.min2, ho], fx, by grind, by grind, Or.inl rfl⟩
  · rw [if_neg (by grind), if_pos h] at ho
    refine ⟨if (FloatKind.f64.decode x).neg then x else y, fun ts t w => by simp [Builtin.min_, Builtin.min2, ho], ?_⟩
    split
    · exact ⟨fx, by grind, by grind, Or.inl rfl⟩
    · exact ⟨fy, by grind, by grind, Or.inr rfl⟩
  · rw [if_neg (by grind), if_neg (by grind)] at ho
    exact ⟨y, fun ts t w => by simp [Builtin.min_, Builtin.min2, ho], fy, by grind, by grind, Or.inr rfl⟩
theorem f50 : Fnt 4382002437431492608 ∧ val 4382002437431492608 = 1 / 1125899906842624 := ⟨by unfold Fnt; decide, by decide +kernel⟩
theorem big900 {M : Rat} (h : M ≤ pw 900) : 1000 * M ≤ pw 1000 := by
  have : pw 1000 = pw 100 * pw 900 := by rw [← pw_add]; rfl
  have e : (1000 : Rat) ≤ pw 100 := by
    have a := pw_mono (show (10 : Int) ≤ 100 by omega)
    have b : pw 10 = 1024 := by decide +kernel
    grind
  have := Rat.mul_le_mul_of_nonneg_right e (Rat.le_of_lt (pw_pos 900))
  grind
/-- What is let through. -/
theorem off_ok {mw : Nat} {E : Rat} (hE : Err (val mw) E) (fm : Fnt mw) {i : Nat} (hi : i < 200) : ∃ c o, bin .mul (ab 4382002437431492608) (ab mw) = some c ∧ bin .mul (ab (floatOfInt .f64 ((i : Int) + 1))) (ab c) = some o ∧ Fnt o ∧ E ≤ val o ∧ val o ≤ 300 * val mw + 1 := by
  have h0 := hE.1
  have h1 := big900 hE.2.1
  obtain ⟨c, hc⟩ := bin_some_mul f50.1 fm
  have e : val 4382002437431492608 * val mw = 1 / 1125899906842624 * val mw := by rw [f50.2]
  obtain ⟨fc, nc⟩ := mul_near f50.1 fm hc (B := val mw) (by rw [e]; grind) (by rw [e]; grind) (by grind)
  obtain ⟨_, nc2⟩ := mul_near f50.1 fm hc (B := 1 / 1125899906842624 * val mw) (by rw [e]; exact Rat.le_refl) (by rw [e]; grind) (by grind)
  rw [e, pw53] at nc2
  have mc0 := mul_mono f50.1 fm hc (by rw [e]; grind) (by rw [e]; grind) (z := 0)
  have mcm := mul_mono f50.1 fm hc (by rw [e]; grind) (by rw [e]; grind) (z := mw)
  rw [e] at mc0 mcm
  rw [val0] at mc0
  have c0 : 0 ≤ val c := mc0.2 (by grind)
  have c1 : val c ≤ val mw := mcm.1 (by grind)
  have cE : E ≤ val c := by
    rcases hE.2.2 with ⟨_, rfl⟩ | ⟨q1, q2⟩
    · exact c0
    · have t : pw (-1075) = pw (-53) * pw (-1022) := by rw [← pw_add]; rfl
      have q3 := Rat.mul_le_mul_of_nonneg_left q1 (Rat.le_of_lt (pw_pos (-53)))
      rw [← t] at q3
      rw [pw53] at q2 q3
      have := nc2.2
      rw [q2]
      grind
  obtain ⟨fk, vk⟩ := int_val (K := i + 1) (by omega)
  have ek : ((i + 1 : Nat) : Int) = (i : Int) + 1 := by omega
  rw [ek] at fk vk
  obtain ⟨o, ho⟩ := bin_some_mul fk fc
  have k1 : (1 : Rat) ≤ ((i + 1 : Nat) : Rat) := by
    have : ((1 : Nat) : Rat) ≤ ((i + 1 : Nat) : Rat) := Rat.natCast_le_natCast.2 (by omega)
    exact this
  have k2 : ((i + 1 : Nat) : Rat) ≤ 200 := by
    have : ((i + 1 : Nat) : Rat) ≤ ((200 : Nat) : Rat) := Rat.natCast_le_natCast.2 (by omega)
    exact this
  have p1 := Rat.mul_le_mul_of_nonneg_right k1 c0
  have p2 := Rat.mul_le_mul_of_nonneg_right k2 c0
  have b1 : val (floatOfInt .f64 ((i : Int) + 1)) * val c ≤ 200 * val mw := by rw [vk]; grind
  have b2 : -(200 * val mw) ≤ val (floatOfInt .f64 ((i : Int) + 1)) * val c := by rw [vk]; grind
  obtain ⟨fo, no⟩ := mul_near fk fc ho (B := 200 * val mw) b1 b2 (by grind)
  have mo := mul_mono fk fc ho (by grind) (by grind) (z := c)
  rw [vk] at mo
  have oc := mo.2 (by grind)
  refine ⟨c, o, by rw [Fnt.ab f50.1, Fnt.ab fm]; exact hc, by rw [Fnt.ab fk, Fnt.ab fc]; exact ho, fo, by grind, ?_⟩
  have t1 := pw_mono (show (-1075 : Int) ≤ 0 by omega)
  have t0 : pw 0 = 1 := by decide +kernel
  have := no.1
  rw [pw53] at this
  grind
/-- The level lies between what came, but for that. -/
theorem chk_low {lo o L : Nat} {M E : Rat} (hM : M ≤ pw 900) (fl : Fnt lo) (fo : Fnt o) (l1 : val lo ≤ M) (l2 : -M ≤ val lo) (o1 : E ≤ val o) (o0 : 0 ≤ E) (o2 : val o ≤ 300 * M + 1) (h : val lo - E ≤ val L) : ∃ a, bin .sub (ab lo) (ab o) = some a ∧ Fnt a ∧ val a ≤ val L := by
  have hb := big900 hM
  have t := pw_mono (show (0 : Int) ≤ 900 by omega)
  have t0 : pw 0 = 1 := by decide +kernel
  have hb2 := big900 (M := pw 900) Rat.le_refl
  obtain ⟨a, ha⟩ := bin_some_sub fl fo
  have M0 : 0 ≤ M := by grind
  have c1 : val lo - val o ≤ 400 * pw 900 := by grind
  have c2 : -(400 * pw 900) ≤ val lo - val o := by grind
  obtain ⟨fa, _⟩ := sub_near fl fo ha (B := 400 * pw 900) c1 c2 (by grind)
  have m := sub_mono fl fo ha (by grind) (by grind) (z := L)
  exact ⟨a, by rw [Fnt.ab fl, Fnt.ab fo]; exact ha, fa, m.1 (by grind)⟩
theorem chk_high {hi o L : Nat} {M E : Rat} (hM : M ≤ pw 900) (fl : Fnt hi) (fo : Fnt o) (l1 : val hi ≤ M) (l2 : -M ≤ val hi) (o1 : E ≤ val o) (o0 : 0 ≤ E) (o2 : val o ≤ 300 * M + 1) (h : val L ≤ val hi + E) : ∃ a, bin .add (ab hi) (ab o) = some a ∧ Fnt a ∧ val L ≤ val a := by
  have hb := big900 hM
  have t := pw_mono (show (0 : Int) ≤ 900 by omega)
  have t0 : pw 0 = 1 := by decide +kernel
  have hb2 := big900 (M := pw 900) Rat.le_refl
  obtain ⟨a, ha⟩ := bin_some_add fl fo
  have M0 : 0 ≤ M := by grind
  have c1 : val hi + val o ≤ 400 * pw 900 := by grind
  have c2 : -(400 * pw 900) ≤ val hi + val o := by grind
  obtain ⟨fa, _⟩ := add_near fl fo ha (B := 400 * pw 900) c1 c2 (by grind)
  have m := add_mono fl fo ha (by grind) (by grind) (z := L)
  exact ⟨a, by rw [Fnt.ab fl, Fnt.ab fo]; exact ha, fa, m.2 (by grind)⟩
theorem chk_last {L x o : Nat} {M E : Rat} (hM : M ≤ pw 900) (fL : Fnt L) (fx : Fnt x) (x1 : val x ≤ M) (x2 : -M ≤ val x) (o1 : E ≤ val o) (e1 : E ≤ M) (h : Near (val L) (val x) E) : ∃ a, bin .sub (ab L) (ab x) = some a ∧ Fnt a ∧ val (Go.Fl.abs a) ≤ val o := by
  have hb := big900 hM
  obtain ⟨h1, h2⟩ := h
  obtain ⟨a, ha⟩ := bin_some_sub fL fx
  obtain ⟨fa, _⟩ := sub_near fL fx ha (B := E) (by grind) (by grind) (by grind)
  have m := sub_mono fL fx ha (by grind) (by grind) (z := o)
  have m' := sub_mono fL fx ha (by grind) (by grind) (z := neg o)
  rw [vneg] at m'
  have k1 := m.1 (by grind)
  have k2 := m'.2 (by grind)
  refine ⟨a, by rw [Fnt.ab fL, Fnt.ab fx]; exact ha, fa, ?_⟩
  rw [vabs]
  unfold absR
  split <;> grind
theorem next_of {s x L d p r : Nat} {E : Rat} (h : StepOK s x L E d p r) (fs : Fnt s) (fx : Fnt x) {fed : Bool} {lv : Nat → Option Nat} {f : Nat → Nat} {i : Nat} (hb : baseF fed lv f i = some L) (hf : f i = x) : overF fed lv f i = some d ∧ nextF (ab s) fed lv f i = some r := by
  unfold nextF overF
  rw [hb, hf, Fnt.ab fx, h.sub, Fnt.ab fs, h.mul, h.add]
  exact ⟨rfl, rfl⟩
/-- A level between the least and the greatest that came. -/
structure IV (M E : Rat) (lo hi L : Nat) : Prop where
  fl : Fnt lo
  fh : Fnt hi
  fL : Fnt L
  l1 : val lo ≤ M
  l2 : -M ≤ val lo
  h1 : val hi ≤ M
  h2 : -M ≤ val hi
  a : val lo - E ≤ val L
  b : val L ≤ val hi + E
theorem IV.start {M E : Rat} (hE : Err M E) {x : Nat} (fx : Fnt x) (x1 : val x ≤ M) (x2 : -M ≤ val x) : IV M E x x x := by
  have := hE.pos
  exact ⟨fx, fx, fx, x1, x2, x1, x2, by grind, by grind⟩
/-- All that a round of the law needs. -/
structure RF7 (s x L lo0 hi0 mw i : Nat) (E : Rat) (d r lo hi c o a b : Nat) : Prop where
  st : ∃ p, StepOK s x L E d p r
  mn : ∀ (ts : Array TypeId) (t : TypeId) (w : World), (Builtin.min_ ts t #[.float .f64 lo0, .float .f64 x]).run Try.prog w = .ok (.float .f64 lo) w
  mx : ∀ (ts : Array TypeId) (t : TypeId) (w : World), (Builtin.max_ ts t #[.float .f64 hi0, .float .f64 x]).run Try.prog w = .ok (.float .f64 hi) w
  mc : bin .mul (ab 4382002437431492608) (ab mw) = some c
  mo : bin .mul (ab (floatOfInt .f64 ((i : Int) + 1))) (ab c) = some o
  sa : bin .sub (ab lo) (ab o) = some a
  sb : bin .add (ab hi) (ab o) = some b
  ga : (gtF (ab r) (ab a) || eqF (ab r) (ab a)) = true ∧ (gtF (ab r) (ab a) = true ∨ eqF (ab r) (ab a) = true)
  gb : (ltF (ab r) (ab b) || eqF (ab r) (ab b)) = true ∧ (ltF (ab r) (ab b) = true ∨ eqF (ab r) (ab b) = true)
  one : eqF (ab s) (ab 4607182418800017408) = true → ∃ e, bin .sub (ab r) (ab x) = some e ∧ (ltF (ab (Go.Fl.abs e)) (ab o) || eqF (ab (Go.Fl.abs e)) (ab o)) = true ∧ (ltF (ab (Go.Fl.abs e)) (ab o) = true ∨ eqF (ab (Go.Fl.abs e)) (ab o) = true)
  iv : IV (val mw) E lo hi r
theorem round7 {s x L lo0 hi0 mw i : Nat} {E : Rat} (hE : Err (val mw) E) (fm : Fnt mw) (hi : i < 200) (fs : Fnt s) (s0 : 0 ≤ val s) (s1 : val s ≤ 1) (fx : Fnt x) (x1 : val x ≤ val mw) (x2 : -val mw ≤ val x) (h : IV (val mw) E lo0 hi0 L) : ∃ d r lo hi' c o a b, RF7 s x L lo0 hi0 mw i E d r lo hi' c o a b := by
  have hM := hE.2.1
  obtain ⟨e0, e1⟩ := hE.pos
  obtain ⟨d, p, r, st⟩ := step_ok hE fs s0 s1 fx x1 x2 h.fL (by have := h.b; have := h.h1; grind) (by have := h.a; have := h.l2; grind)
  obtain ⟨lo, m1, m2, m3, m4, m5⟩ := min_run (P := Try.prog) h.fl fx
  obtain ⟨hi', n1, n2, n3, n4, n5⟩ := max_run (P := Try.prog) h.fh fx
  obtain ⟨c, o, c1, c2, c3, c4, c5⟩ := off_ok hE fm hi
  have l1 : val lo ≤ val mw := by grind
  have l2 : -val mw ≤ val lo := by have := h.l2; rcases m5 with q | q <;> grind
  have h1 : val hi' ≤ val mw := by have := h.h1; rcases n5 with q | q <;> grind
  have h2 : -val mw ≤ val hi' := by grind
  have ra : val lo - E ≤ val r := by
    rcases (Rat.le_total : val L ≤ val x ∨ val x ≤ val L) with q | q
    · have := (st.above q).1; have := h.a; grind
    · have := (st.below q).1; grind
  have rb : val r ≤ val hi' + E := by
    rcases (Rat.le_total : val L ≤ val x ∨ val x ≤ val L) with q | q
    · have := (st.above q).2; grind
    · have := (st.below q).2; have := h.b; grind
  obtain ⟨a, a1, a2, a3⟩ := chk_low hM m2 c3 l1 l2 c4 e0 c5 ra
  obtain ⟨b, b1, b2, b3⟩ := chk_high hM n2 c3 h1 h2 c4 e0 c5 rb
  refine ⟨d, r, lo, hi', c, o, a, b, ⟨p, st⟩, m1, n1, c1, c2, a1, b1, ge_of st.fr a2 a3, le_of st.fr b2 b3, fun hs => ?_, ⟨m2, n2, st.fr, l1, l2, h1, h2, ra, rb⟩⟩
  rw [eqF_val fs f1.1, f1.2, decide_eq_true_eq] at hs
  obtain ⟨e, q1, q2, q3⟩ := chk_last hM st.fr fx x1 x2 c4 e1 (st.one hs)
  exact ⟨e, q1, le_of (fin_abs q2) c3 q3⟩
end Go.Proofs.Ytgalgnopjcpocaa

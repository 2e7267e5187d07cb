/- A level that goes a share of the way to what came: by how much it may be off. No program is spoken of here. -/
import Derived.Test.YtgalgnopjcpocaaGb
namespace Go.Proofs.Ytgalgnopjcpocaa
open Go.Fl Ieee Go.RowKit

theorem val_unit (x : Nat) : ∃ a : Int, val x = (a : Rat) * pw (-1074) := ⟨_, rfl⟩
/-- A few of the least units are a float. -/
theorem unit_rep {a : Int} (h1 : -9007199254740992 < a) (h2 : a < 9007199254740992) : ∃ y, Fnt y ∧ val y = (a : Rat) * pw (-1074) := by
  have hb : ((a.natAbs : Nat) : Rat) * pw (-1074) ≤ pw 1000 := by
    have k1 : ((a.natAbs : Nat) : Rat) ≤ ((2 ^ 53 : Nat) : Rat) := Rat.natCast_le_natCast.2 (by omega)
    have k2 := Rat.mul_le_mul_of_nonneg_right k1 (Rat.le_of_lt (pw_pos (-1074)))
    rw [← pw_nat, ← pw_add] at k2
    have k3 := pw_mono (show ((53 : Nat) : Int) + (-1074) ≤ 1000 by omega)
    exact Rat.le_trans k2 k3
  rcases (show a < 0 ∨ 0 ≤ a by omega) with hs | hs
  · obtain ⟨f, v⟩ := exact_write true (K := a.natAbs) (e := -1074) (by omega) (by omega) hb
    refine ⟨_, f, ?_⟩
    rw [v, dv_true]
    have e : (a : Rat) = -((a.natAbs : Nat) : Rat) := by
      have : a = -((a.natAbs : Nat) : Int) := by omega
      rw [← Rat.intCast_natCast, ← Rat.intCast_neg, ← this]
    rw [e, Rat.neg_mul]
  · obtain ⟨f, v⟩ := exact_write false (K := a.natAbs) (e := -1074) (by omega) (by omega) hb
    refine ⟨_, f, ?_⟩
    rw [v, dv_false]
    have e : (a : Rat) = ((a.natAbs : Nat) : Rat) := by
      have : a = ((a.natAbs : Nat) : Int) := by omega
      rw [← Rat.intCast_natCast, ← this]
    rw [e]
theorem int_of_lt {a : Int} (h : (a : Rat) * pw (-1074) < pw (-1021)) : a < 9007199254740992 := by
  have e : pw (-1021) = ((9007199254740992 : Int) : Rat) * pw (-1074) := by
    have : pw (-1021) = pw 53 * pw (-1074) := by rw [← pw_add]; rfl
    rw [this]
    have : pw 53 = ((9007199254740992 : Int) : Rat) := by decide +kernel
    rw [this]
  rw [e] at h
  rcases (show a < 9007199254740992 ∨ 9007199254740992 ≤ a by omega) with k | k
  · exact k
  · exfalso
    have k2 := Rat.mul_le_mul_of_nonneg_right (Rat.intCast_le_intCast.2 k) (Rat.le_of_lt (pw_pos (-1074)))
    grind
theorem int_of_gt {a : Int} (h : -pw (-1021) < (a : Rat) * pw (-1074)) : -9007199254740992 < a := by
  have : (((-a : Int)) : Rat) * pw (-1074) < pw (-1021) := by rw [Rat.intCast_neg, Rat.neg_mul]; grind
  have := int_of_lt this
  omega
theorem tiny_le : pw (-1021) ≤ pw 1000 := pw_mono (by omega)
/-- Differences and sums of tiny floats are exact. -/
theorem tiny_sub {x y : Nat} (hx : Fnt x) (hy : Fnt y) (h1 : val x - val y < pw (-1021)) (h2 : -pw (-1021) < val x - val y) : ∃ r, bin .sub (some x) (some y) = some r ∧ Fnt r ∧ val r = val x - val y := by
  obtain ⟨a, ea⟩ := val_unit x
  obtain ⟨b, eb⟩ := val_unit y
  have e : val x - val y = ((a - b : Int) : Rat) * pw (-1074) := by rw [ea, eb, Rat.intCast_sub]; grind
  have t := tiny_le
  obtain ⟨z, fz, vz⟩ := unit_rep (int_of_gt (by rw [← e]; exact h2)) (int_of_lt (by rw [← e]; exact h1))
  obtain ⟨r, hr⟩ := bin_some_sub hx hy
  obtain ⟨fr, _⟩ := sub_near hx hy hr (B := pw (-1021)) (by grind) (by grind) t
  have m := sub_mono hx hy hr (by grind) (by grind) (z := z)
  rw [vz, ← e] at m
  exact ⟨r, hr, fr, Rat.le_antisymm (m.1 Rat.le_refl) (m.2 Rat.le_refl)⟩
theorem tiny_add {x y : Nat} (hx : Fnt x) (hy : Fnt y) (h1 : val x + val y < pw (-1021)) (h2 : -pw (-1021) < val x + val y) : ∃ r, bin .add (some x) (some y) = some r ∧ Fnt r ∧ val r = val x + val y := by
  obtain ⟨a, ea⟩ := val_unit x
  obtain ⟨b, eb⟩ := val_unit y
  have e : val x + val y = ((a + b : Int) : Rat) * pw (-1074) := by rw [ea, eb, Rat.intCast_add]; grind
  have t := tiny_le
  obtain ⟨z, fz, vz⟩ := unit_rep (int_of_gt (by rw [← e]; exact h2)) (int_of_lt (by rw [← e]; exact h1))
  obtain ⟨r, hr⟩ := bin_some_add hx hy
  obtain ⟨fr, _⟩ := add_near hx hy hr (B := pw (-1021)) (by grind) (by grind) t
  have m := add_mono hx hy hr (by grind) (by grind) (z := z)
  rw [vz, ← e] at m
  exact ⟨r, hr, fr, Rat.le_antisymm (m.1 Rat.le_refl) (m.2 Rat.le_refl)⟩
/-- By how much a step may be off, of numbers of a magnitude. -/
def Err (M E : Rat) : Prop := 0 ≤ M ∧ M ≤ pw 900 ∧ ((M < pw (-1022) ∧ E = 0) ∨ (pw (-1022) ≤ M ∧ E = pw (-53) * (31 / 10 * M)))
theorem Err.pos {M E : Rat} (h : Err M E) : 0 ≤ E ∧ E ≤ M := by
  obtain ⟨h0, h1, ⟨h2, rfl⟩ | ⟨h2, rfl⟩⟩ := h
  · exact ⟨Rat.le_refl, h0⟩
  · rw [pw53]; constructor <;> grind
theorem Err.ex {M : Rat} (h0 : 0 ≤ M) (h1 : M ≤ pw 900) : ∃ E, Err M E := by
  rcases Decidable.em (M < pw (-1022)) with h | h
  · exact ⟨0, h0, h1, Or.inl ⟨h, rfl⟩⟩
  · exact ⟨_, h0, h1, Or.inr ⟨by grind, rfl⟩⟩
theorem pw900 : 100 * pw 900 ≤ pw 1000 := by
  have : pw 1000 = pw 100 * pw 900 := by rw [← pw_add]; rfl
  rw [this]
  have e : (100 : Rat) ≤ pw 100 := by
    have a := pw_mono (show (7 : Int) ≤ 100 by omega)
    have b : pw 7 = 128 := by decide +kernel
    grind
  exact Rat.mul_le_mul_of_nonneg_right e (Rat.le_of_lt (pw_pos 900))
/-- A share of a number lies between nought and the number. -/
theorem share_of {s d : Rat} (h0 : 0 ≤ s) (h1 : s ≤ 1) : (0 ≤ d → 0 ≤ s * d ∧ s * d ≤ d) ∧ (d ≤ 0 → d ≤ s * d ∧ s * d ≤ 0) := by
  constructor
  · intro h
    have a := Rat.mul_nonneg h0 h
    have b := Rat.mul_le_mul_of_nonneg_right h1 h
    grind
  · intro h
    have a := Rat.mul_nonneg h0 (show (0 : Rat) ≤ -d by grind)
    have b := Rat.mul_le_mul_of_nonneg_right h1 (show (0 : Rat) ≤ -d by grind)
    grind
structure StepOK (s x L : Nat) (E : Rat) (d p r : Nat) : Prop where
  sub : bin .sub (some x) (some L) = some d
  mul : bin .mul (some s) (some d) = some p
  add : bin .add (some L) (some p) = some r
  fd : Fnt d
  fr : Fnt r
  above : val L ≤ val x → val L ≤ val r ∧ val r ≤ val x + E
  below : val x ≤ val L → val x - E ≤ val r ∧ val r ≤ val L
  one : val s = 1 → Near (val r) (val x) E
  same : val L = val x → val d = 0 ∧ val r = val x
theorem fz0 : Fnt 0 := by unfold Fnt; decide
theorem near_of {a b E F : Rat} (h : Near a b E) (hE : E ≤ F) : Near a b F := ⟨by have := h.1; grind, by have := h.2; grind⟩
theorem step_big {M E : Rat} (hM0 : 0 ≤ M) (hM : 100 * M ≤ pw 1000) (hE : E = pw (-53) * (31 / 10 * M)) {s x L : Nat} (fs : Fnt s) (s0 : 0 ≤ val s) (s1 : val s ≤ 1) (fx : Fnt x) (x1 : val x ≤ M) (x2 : -M ≤ val x) (fL : Fnt L) (l1 : val L ≤ M + E) (l2 : -(M + E) ≤ val L) : ∃ d p r, StepOK s x L E d p r := by
  rw [pw53] at hE
  have E0 : 0 ≤ E := by grind
  have E1 : E ≤ M / 1000 := by grind
  obtain ⟨d, hd⟩ := bin_some_sub fx fL
  obtain ⟨fd, nd⟩ := sub_near fx fL hd (B := 2 * M + E) (by grind) (by grind) (by grind)
  rw [pw53] at nd
  obtain ⟨nd1, nd2⟩ := nd
  have md0 := sub_mono fx fL hd (by grind) (by grind) (z := 0)
  rw [val0] at md0
  obtain ⟨p, hp⟩ := bin_some_mul fs fd
  obtain ⟨q1, q2⟩ := share_of (s := val s) (d := val d) s0 s1
  have dhi : val d ≤ 3 * M := by grind
  have dlo : -(3 * M) ≤ val d := by grind
  have b1 : val s * val d ≤ 3 * M := by
    rcases (Rat.le_total : 0 ≤ val d ∨ val d ≤ 0) with h | h
    · have := (q1 h).2; grind
    · have := (q2 h).2; grind
  have b2 : -(3 * M) ≤ val s * val d := by
    rcases (Rat.le_total : 0 ≤ val d ∨ val d ≤ 0) with h | h
    · have := (q1 h).1; grind
    · have := (q2 h).1; grind
  obtain ⟨fp, _⟩ := mul_near fs fd hp (B := 3 * M) b1 b2 (by grind)
  have mp0 := mul_mono fs fd hp (by grind) (by grind) (z := 0)
  have mpd := mul_mono fs fd hp (by grind) (by grind) (z := d)
  rw [val0] at mp0
  obtain ⟨r, hr⟩ := bin_some_add fL fp
  have pb : val p ≤ 3 * M ∧ -(3 * M) ≤ val p := by
    rcases (Rat.le_total : 0 ≤ val d ∨ val d ≤ 0) with h | h
    · have a := mpd.1 (q1 h).2
      have b := mp0.2 (q1 h).1
      constructor <;> grind
    · have a := mp0.1 (q2 h).2
      have b := mpd.2 (q2 h).1
      constructor <;> grind
  have mrL := add_mono fL fp hr (by grind) (by grind) (z := L)
  have sum : val L + val p ≤ M + E + 1 / 9007199254740992 * (2 * M + E) ∧ -(M + E + 1 / 9007199254740992 * (2 * M + E)) ≤ val L + val p := by
    rcases (Rat.le_total : 0 ≤ val d ∨ val d ≤ 0) with h | h
    · have a := mpd.1 (q1 h).2
      have b := mp0.2 (q1 h).1
      constructor <;> grind
    · have a := mp0.1 (q2 h).2
      have b := mpd.2 (q2 h).1
      constructor <;> grind
  obtain ⟨fr, nr⟩ := add_near fL fp hr (B := M + E + 1 / 9007199254740992 * (2 * M + E)) sum.1 sum.2 (by grind)
  rw [pw53] at nr
  obtain ⟨nr1, nr2⟩ := nr
  refine ⟨d, p, r, hd, hp, hr, fd, fr, fun h => ?_, fun h => ?_, fun h => ?_, fun h => ?_⟩
  · have h' := md0.2 (by grind)
    have a := mpd.1 (q1 h').2
    have b := mp0.2 (q1 h').1
    exact ⟨mrL.2 (by grind), by grind⟩
  · have h' := md0.1 (by grind)
    have a := mp0.1 (q2 h').2
    have b := mpd.2 (q2 h').1
    exact ⟨by grind, mrL.1 (by grind)⟩
  · have e : val s * val d = val d := by rw [h]; grind
    rw [e] at mpd
    have a := mpd.1 Rat.le_refl
    have b := mpd.2 Rat.le_refl
    exact ⟨by grind, by grind⟩
  · have h0 : val d = 0 := by
      have a := md0.1 (by grind)
      have b := md0.2 (by grind)
      grind
    have e : val s * val d = 0 := by rw [h0]; grind
    rw [e] at mp0
    have a := mp0.1 Rat.le_refl
    have b := mp0.2 Rat.le_refl
    have c := mrL.1 (by grind)
    have c' := mrL.2 (by grind)
    exact ⟨h0, by grind⟩
theorem step_tiny {M : Rat} (hM : M < pw (-1022)) {s x L : Nat} (fs : Fnt s) (s0 : 0 ≤ val s) (s1 : val s ≤ 1) (fx : Fnt x) (x1 : val x ≤ M) (x2 : -M ≤ val x) (fL : Fnt L) (l1 : val L ≤ M) (l2 : -M ≤ val L) : ∃ d p r, StepOK s x L 0 d p r := by
  have e2 : pw (-1021) = 2 * pw (-1022) := by
    have : pw (-1021) = pw 1 * pw (-1022) := by rw [← pw_add]; rfl
    rw [this]
    have : pw 1 = 2 := by decide +kernel
    rw [this]
  have t := tiny_le
  obtain ⟨d, hd, fd, vd⟩ := tiny_sub fx fL (by grind) (by grind)
  obtain ⟨p, hp⟩ := bin_some_mul fs fd
  obtain ⟨q1, q2⟩ := share_of (s := val s) (d := val d) s0 s1
  have b1 : val s * val d ≤ pw (-1021) := by
    rcases (Rat.le_total : 0 ≤ val d ∨ val d ≤ 0) with h | h
    · have := (q1 h).2; grind
    · have := (q2 h).2; grind
  have b2 : -pw (-1021) ≤ val s * val d := by
    rcases (Rat.le_total : 0 ≤ val d ∨ val d ≤ 0) with h | h
    · have := (q1 h).1; grind
    · have := (q2 h).1; grind
  obtain ⟨fp, _⟩ := mul_near fs fd hp (B := pw (-1021)) b1 b2 t
  have mp0 := mul_mono fs fd hp (by grind) (by grind) (z := 0)
  have mpd := mul_mono fs fd hp (by grind) (by grind) (z := d)
  rw [val0] at mp0
  have sum : val L + val p < pw (-1021) ∧ -pw (-1021) < val L + val p := by
    rcases (Rat.le_total : 0 ≤ val d ∨ val d ≤ 0) with h | h
    · have a := mpd.1 (q1 h).2
      have b := mp0.2 (q1 h).1
      constructor <;> grind
    · have a := mp0.1 (q2 h).2
      have b := mpd.2 (q2 h).1
      constructor <;> grind
  obtain ⟨r, hr, fr, vr⟩ := tiny_add fL fp sum.1 sum.2
  refine ⟨d, p, r, hd, hp, hr, fd, fr, fun h => ?_, fun h => ?_, fun h => ?_, fun h => ?_⟩
  · have a := mpd.1 (q1 (by grind)).2
    have b := mp0.2 (q1 (by grind)).1
    constructor <;> grind
  · have a := mp0.1 (q2 (by grind)).2
    have b := mpd.2 (q2 (by grind)).1
    constructor <;> grind
  · have e : val s * val d = val d := by rw [h]; grind
    rw [e] at mpd
    have a := mpd.1 Rat.le_refl
    have b := mpd.2 Rat.le_refl
    constructor <;> grind
  · have h0 : val d = 0 := by grind
    have e : val s * val d = 0 := by rw [h0]; grind
    rw [e] at mp0
    have a := mp0.1 Rat.le_refl
    have b := mp0.2 Rat.le_refl
    exact ⟨h0, by grind⟩
/-- ONE STEP. -/
theorem step_ok {M E : Rat} (h : Err M E) {s x L : Nat} (fs : Fnt s) (s0 : 0 ≤ val s) (s1 : val s ≤ 1) (fx : Fnt x) (x1 : val x ≤ M) (x2 : -M ≤ val x) (fL : Fnt L) (l1 : val L ≤ M + E) (l2 : -(M + E) ≤ val L) : ∃ d p r, StepOK s x L E d p r := by
  obtain ⟨h0, h1, ⟨h2, rfl⟩ | ⟨h2, h3⟩⟩ := h
  · exact step_tiny h2 fs s0 s1 fx x1 x2 fL (by grind) (by grind)
  · exact step_big h0 (by have := pw900; grind) h3 fs s0 s1 fx x1 x2 fL l1 l2
end Go.Proofs.Ytgalgnopjcpocaa

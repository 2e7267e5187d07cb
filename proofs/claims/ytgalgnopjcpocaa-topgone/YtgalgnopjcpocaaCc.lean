/- Scene: an echo, as numbers; what adds it. -/
import Derived.Test.YtgalgnopjcpocaaCb
import Derived.Test.YtgalgnopjcpocaaLe
namespace Go.Proofs.Ytgalgnopjcpocaa
open Go.ChangeShapes Go.WideShapes Go.ChangeAt Go.RowKit Go.Fl Ieee
attribute [local go_sem] run_store_float run_store_c isSome_set call20 call33 run_neg fold_eq fold_ne fold_lt fold_gt abs_eq

/-- How far the target is when the pulse of a row is sent. -/
def rF (tm rt r s : Option Nat) (sent : Int) : Option Nat := atF r s (bin .add tm (bin .quo (ab (floatOfInt .f64 sent)) rt))
/-- How many cells that is. -/
def dF (r c : Option Nat) : Option Nat := (bin .quo r c).map floor
/-- Is an echo heard? -/
def heardF (r d : Option Nat) : Bool := fin r && !ltF d (ab 0) && !gtF d (ab 4742290407621132288)
/-- What the pulse is multiplied by. -/
def turnP (x : Option Nat) : C2 := (turnC x, turnS x)
def phaseF (tn r wv : Option Nat) : Option Nat := bin .sub tn (bin .quo (bin .mul (ab 4611686018427387904) r) wv)
def ampF (tn r wv am : Option Nat) : C2 := (bin .mul (turnC (phaseF tn r wv)) am, bin .mul (turnS (phaseF tn r wv)) am)
/-- As a whole number. -/
def intD (d : Option Nat) : Nat := match d with | some q => ((floatToIntVal .f64 q .i64).getD 0).toNat | none => 0
/-- A pulse, some of its samples, added from a place on. -/
def hitF (S : Nat → C2) (F m : Nat) (a : C2) (P : Nat → C2) (i : Nat) : C2 := if F ≤ i ∧ i < F + m then addC (S i) (mulC a (P (i - F))) else S i
/-- A beat: its cell, its wave, its rate, how many samples a row has, how many rows. -/
structure Bt where
  c : Nat
  v : Nat
  r : Nat
  E : Nat
  R : Nat
def rowR (b : Bt) (t : Tg) (tm : Nat) (p : Nat) : Option Nat := rF (ab tm) (ab b.r) (ab t.r) (ab t.s) ((p : Int) * (b.E : Int))
def rowD (b : Bt) (t : Tg) (tm : Nat) (p : Nat) : Option Nat := dF (rowR b t tm p) (ab b.c)
def rowA (b : Bt) (t : Tg) (tm : Nat) (p : Nat) : C2 := ampF (ab t.t) (rowR b t tm p) (ab b.v) (ab t.a)
/-- What the row p adds. -/
def rowE (b : Bt) (t : Tg) (tm n N : Nat) (P : Nat → C2) (S : Nat → C2) (p : Nat) : Nat → C2 :=
  if heardF (rowR b t tm p) (rowD b t tm p) = true then hitF S (p * b.E + intD (rowD b t tm p)) (min n (N - (p * b.E + intD (rowD b t tm p)))) (rowA b t tm p) P else S
/-- What the first rows add. -/
def echoS (b : Bt) (t : Tg) (tm n N : Nat) (P : Nat → C2) (S : Nat → C2) : Nat → Nat → C2
  | 0 => S
  | p + 1 => rowE b t tm n N P (echoS b t tm n N P S p) p
theorem hit_zero (S : Nat → C2) (F : Nat) (a : C2) (P : Nat → C2) (i : Nat) : hitF S F 0 a P i = S i := by
  unfold hitF; rw [if_neg (by omega)]
theorem hit_next {S : Nat → C2} {F k : Nat} {a : C2} {P : Nat → C2} {i : Nat} : hitF S F (k + 1) a P i = if i = F + k then addC (hitF S F k a P i) (mulC a (P k)) else hitF S F k a P i := by
  unfold hitF
  by_cases h : i = F + k
  · subst h
    rw [if_pos (by omega), if_pos rfl, if_neg (by omega), Nat.add_sub_cancel_left]
  · rw [if_neg h]
    by_cases h2 : F ≤ i ∧ i < F + k
    · rw [if_pos h2, if_pos (by omega)]
    · rw [if_neg h2, if_neg (by omega)]
/-- What the closure holds, and what it was given. -/
structure AX (w : World) (B b1 b2 b3 b4 : Nat) (b : Bt) (pg po n pc tm N : Nat) (fp : Nat → Nat × Nat) : Prop where
  bc : BC w b1 b.c b.v b.r (b.E : Int) (b.R : Int)
  time : w.cell? ⟨b2, 0, none⟩ = some (.float .f64 tm)
  pulse : w.cell? ⟨b3, 0, none⟩ = some (.slice (some ⟨pg, po, none⟩) n pc)
  samp : w.cell? ⟨b4, 0, none⟩ = some (.slice (some ⟨B, 0, none⟩) N N)
  rd : RD w pg po n fp
  n1 : b1 ≠ B
  n2 : b2 ≠ B
  n3 : b3 ≠ B
  n4 : b4 ≠ B
  np : pg ≠ B
theorem BC.but {w w' : World} {B b c v r : Nat} {E R : Int} (h : BC w b c v r E R) (hb : But B w w') (hne : b ≠ B) : BC w' b c v r E R :=
  ⟨hb.cell hne h.c0, hb.cell hne h.c1, hb.cell hne h.c2, hb.cell hne h.c3, hb.cell hne h.c4⟩
theorem AX.but {w w' : World} {B b1 b2 b3 b4 : Nat} {b : Bt} {pg po n pc tm N : Nat} {fp : Nat → Nat × Nat} (h : AX w B b1 b2 b3 b4 b pg po n pc tm N fp) (hb : But B w w') : AX w' B b1 b2 b3 b4 b pg po n pc tm N fp :=
  ⟨h.bc.but hb h.n1, hb.cell h.n2 h.time, hb.cell h.n3 h.pulse, hb.cell h.n4 h.samp, fun j hj => hb.cell h.np (h.rd j hj), h.n1, h.n2, h.n3, h.n4, h.np⟩
/-- A target's cells. -/
structure T5 (w : World) (g : Nat) (t : Tg) : Prop where
  c0 : w.cell? ⟨g, 0, none⟩ = some (.float .f64 t.r)
  c1 : w.cell? ⟨g, 1, none⟩ = some (.float .f64 t.s)
  c2 : w.cell? ⟨g, 2, none⟩ = some (.float .f64 t.a)
  c3 : w.cell? ⟨g, 3, none⟩ = some (.float .f64 t.t)
  c4 : w.cell? ⟨g, 4, none⟩ = some (.float .f64 t.b)
theorem T5.but {w w' : World} {B g : Nat} {t : Tg} (h : T5 w g t) (hb : But B w w') (hne : g ≠ B) : T5 w' g t :=
  ⟨hb.cell hne h.c0, hb.cell hne h.c1, hb.cell hne h.c2, hb.cell hne h.c3, hb.cell hne h.c4⟩
theorem fin_range {d : Nat} (h : isN d = false) (h0 : ltF (ab d) (ab 0) = false) (h1 : gtF (ab d) (ab 4742290407621132288) = false) : Fnt d ∧ 0 ≤ val d ∧ val d ≤ 1073741824 := by
  have hA : isN (abs d) = false := by rw [isN_abs]; exact h
  have e1 : ord (ab d) (ab 0) = some (compare (lin d) (lin 0)) := by
    rw [← order_ab]; exact order_lin h (by decide +kernel)
  have e2 : ord (ab d) (ab 4742290407621132288) = some (compare (lin d) (lin 4742290407621132288)) := by
    rw [← order_ab]; exact order_lin h (by decide +kernel)
  have e3 : ord ((ab d).map abs) (ab 9218868437227405311) = some (compare (lin (abs d)) (lin 9218868437227405311)) := by
    rw [← ab_abs, ← order_ab]; exact order_lin hA (by decide +kernel)
  have l0 : lin 0 = 0 := by decide +kernel
  have l1 : lin 4742290407621132288 = 4742290407621132288 := by decide +kernel
  have l2 : lin 9218868437227405311 = 9218868437227405311 := by decide +kernel
  have l3 : lin (abs d) = ((d % 2 ^ 63 : Nat) : Int) := by
    have : abs d < 2 ^ 63 := Nat.mod_lt _ (by decide)
    rw [lin_low this]; rfl
  have l4 : lin d = ((d % 2 ^ 63 : Nat) : Int) ∨ lin d = -((d % 2 ^ 63 : Nat) : Int) := by
    unfold lin sgn; split <;> simp
  have g0 : 0 ≤ lin d := by
    unfold ltF at h0
    rw [e1, l0, Int.compare_eq_ite_lt] at h0
    by_cases e : lin d < 0
    · rw [if_pos e] at h0; cases h0
    · omega
  have g1 : lin d ≤ 4742290407621132288 := by
    unfold gtF at h1
    rw [e2, l1, Int.compare_eq_ite_lt] at h1
    by_cases e : 4742290407621132288 < lin d
    · rw [if_neg (by omega), if_pos e] at h1; cases h1
    · omega
  have hf : fin (ab d) = true := by
    unfold fin
    rw [eqF_self, h]
    unfold gtF
    rw [e3, l2, l3, Int.compare_eq_ite_lt]
    have : ((d % 2 ^ 63 : Nat) : Int) < 9218868437227405311 := by
      rcases l4 with l4 | l4 <;> omega
    rw [if_pos this]
    rfl
  have fd := fin_iff hf
  have f0 : Fnt 0 ∧ val 0 = 0 := ⟨by unfold Fnt; decide, val0⟩
  have f1 : Fnt 4742290407621132288 ∧ val 4742290407621132288 = 1073741824 := ⟨by unfold Fnt; decide, by decide +kernel⟩
  rw [ltF_val fd f0.1, f0.2] at h0
  rw [gtF_val fd f1.1, f1.2] at h1
  simp at h0 h1
  exact ⟨fd, by grind, by grind⟩
/-- Where the echo begins, as Go's int. -/
theorem int_range {d : Nat} (h : isN d = false) (h0 : ltF (ab d) (ab 0) = false) (h1 : gtF (ab d) (ab 4742290407621132288) = false) : ∃ K : Nat, floatToIntVal .f64 d .i64 = some (K : Int) ∧ intD (ab d) = K ∧ K ≤ 1073741824 := by
  obtain ⟨f, v0, v1⟩ := fin_range h h0 h1
  obtain ⟨K, k1, k2, k3, k4⟩ := toInt_val f v0 (by grind)
  refine ⟨K, k1, ?_, ?_⟩
  · rw [ab_some h]; simp [intD, k1]
  · have : (K : Rat) ≤ ((1073741824 : Nat) : Rat) := by
      have e : ((1073741824 : Nat) : Rat) = 1073741824 := by decide +kernel
      rw [e]; grind
    exact Rat.natCast_le_natCast.1 this
theorem quo_is {r c : Nat} (hr : fin (ab r) = true) (hc : goodF (ab c) = true) : ∃ x, bin .quo (ab r) (ab c) = some x ∧ isN x = false := by
  unfold goodF at hc
  rw [Bool.and_eq_true] at hc
  have fr := fin_iff hr
  have fc := fin_iff hc.1
  have pc := hc.2
  have f0 : Fnt 0 ∧ val 0 = 0 := ⟨by unfold Fnt; decide, val0⟩
  rw [gtF_val fc f0.1, f0.2] at pc
  simp at pc
  rw [Fnt.ab fr, Fnt.ab fc]
  obtain ⟨s, a, i, ex⟩ := fin_read fr
  obtain ⟨t, b, j, ey⟩ := fin_read fc
  have vm := val_read ey
  have hb : b ≠ 0 := by
    intro h0
    subst h0
    have : dv t 0 j = 0 := by cases t <;> simp [dv, sgn]
    grind
  obtain ⟨x, hx⟩ : ∃ x, bin .quo (some r) (some c) = some x := by
    show ∃ x, double.div r c = some x
    unfold Format.div
    rw [ex, ey]
    simp only [Datum.quotient, if_neg hb, Option.map_some]
    exact ⟨_, rfl⟩
  exact ⟨x, hx, bits_ok (op := .quo) (x := r) (y := c) hx⟩
theorem floor_is {x d : Nat} (h : ab d = (ab x).map floor) (hx : isN x = false) : isN d = false := by
  rw [ab_some hx] at h
  cases hd : isN d
  · rfl
  · rw [ab_none hd] at h; cases h
set_option maxRecDepth 20000 in
theorem run_conv (q : Nat) (z : Int) (h : floatToIntVal .f64 q .i64 = some z) (w : World) : (convert 26 3 (.float .f64 q)).run Try.prog w = .ok (.int .i64 z) w :=
  run_convert_float_int w 26 3 .f64 .i64 q z (by kernel_rfl) Try.underlying3 h
theorem run_fl_some {P : Program} (op : BinOp) (t : TypeId) {x y r : Nat} (w : World) (h : bin op (ab x) (ab y) = some r) : (binOp op t (.float .f64 x) (.float .f64 y)).run P w = .ok (.float .f64 r) w :=
  run_float_arith w op t .f64 x y r (by rw [bits_ab]; exact h)
theorem read_is {y : Nat} (h : isN y = false) : (∃ s m e, double.read y = .number s m e) ∨ ∃ s, double.read y = .infinity s := by
  unfold isN at h
  cases e : double.read y with
  | number s m i => exact Or.inl ⟨s, m, i, rfl⟩
  | infinity s => exact Or.inr ⟨s, rfl⟩
  | nan s f => rw [e] at h; cases h
/-- What stands in the turn of an echo is a number or endless. -/
theorem phase_is {r wv tn : Nat} (hr : fin (ab r) = true) (hw : goodF (ab wv) = true) (ht : fin (ab tn) = true) : ∃ y z u, bin .mul (ab 4611686018427387904) (ab r) = some y ∧ bin .quo (ab y) (ab wv) = some z ∧ bin .sub (ab tn) (ab z) = some u ∧ phaseF (ab tn) (ab r) (ab wv) = ab u := by
  have fr := fin_iff hr
  have ft := fin_iff ht
  unfold goodF at hw
  rw [Bool.and_eq_true] at hw
  have fw := fin_iff hw.1
  have pw' := hw.2
  have f0 : Fnt 0 ∧ val 0 = 0 := ⟨by unfold Fnt; decide, val0⟩
  have f2 : Fnt 4611686018427387904 := by unfold Fnt; decide
  rw [gtF_val fw f0.1, f0.2] at pw'
  simp at pw'
  obtain ⟨y, hy⟩ := bin_some_mul f2 fr
  have ny : isN y = false := bits_ok (op := .mul) (x := 4611686018427387904) (y := r) hy
  obtain ⟨t, b, j, ey⟩ := fin_read fw
  have vm := val_read ey
  have hb : b ≠ 0 := by
    intro h0
    subst h0
    have : dv t 0 j = 0 := by cases t <;> simp [dv, sgn]
    grind
  obtain ⟨z, hz⟩ : ∃ z, bin .quo (some y) (some wv) = some z := by
    show ∃ x, double.div y wv = some x
    unfold Format.div
    rw [ey]
    rcases read_is ny with ⟨s, m, i, e⟩ | ⟨s, e⟩ <;> rw [e]
    · simp only [Datum.quotient, if_neg hb, Option.map_some]
      exact ⟨_, rfl⟩
    · exact ⟨_, rfl⟩
  have nz : isN z = false := bits_ok (op := .quo) (x := y) (y := wv) hz
  obtain ⟨s1, m1, i1, et⟩ := fin_read ft
  obtain ⟨u, hu⟩ : ∃ u, bin .sub (some tn) (some z) = some u := by
    show ∃ x, double.sub tn z = some x
    unfold Format.sub
    rw [et]
    rcases read_is nz with ⟨s, m, i, e⟩ | ⟨s, e⟩ <;> rw [e]
    · exact ⟨_, rfl⟩
    · exact ⟨_, rfl⟩
  have nu : isN u = false := bits_ok (op := .sub) (x := tn) (y := z) hu
  exact ⟨y, z, u, by rw [Fnt.ab f2, Fnt.ab fr]; exact hy, by rw [ab_some ny, Fnt.ab fw]; exact hz, by rw [Fnt.ab ft, ab_some nz]; exact hu, by unfold phaseF; rw [Fnt.ab f2, Fnt.ab fr, hy, Fnt.ab fw, hz, Fnt.ab ft, hu, ab_some nu]⟩
end Go.Proofs.Ytgalgnopjcpocaa

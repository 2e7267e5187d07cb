/- The other sign: products, quotients and differences of numbers whose signs are turned. No program is spoken of here. -/
import Derived.Test.YtlgejebgkkmacaaFw
namespace Go.Proofs.Ytlgejebgkkmacaa
open Go.Fl Ieee Go.RowKit

theorem neg_parts (x : Nat) : neg x % 2 ^ 63 = x % 2 ^ 63 ∧ neg x / 2 ^ 63 = x / 2 ^ 63 ^^^ 1 := by
  have h1 : (x ^^^ 2 ^ 63) % 2 ^ 63 = x % 2 ^ 63 := by rw [Nat.xor_mod_two_pow]; simp
  have h2 : (x ^^^ 2 ^ 63) / 2 ^ 63 = x / 2 ^ 63 ^^^ 1 := by
    have e1 : (x ^^^ 2 ^ 63) >>> 63 = x >>> 63 ^^^ 2 ^ 63 >>> 63 := Nat.shiftRight_xor_distrib
    rw [Nat.shiftRight_eq_div_pow, Nat.shiftRight_eq_div_pow] at e1
    rw [e1]; rfl
  exact ⟨h1, h2⟩
theorem of_parts {x y : Nat} (h1 : x % 2 ^ 63 = y % 2 ^ 63) (h2 : x / 2 ^ 63 = y / 2 ^ 63) : x = y := by omega
theorem neg_neg' (x : Nat) : neg (neg x) = x := by
  obtain ⟨a1, a2⟩ := neg_parts x
  obtain ⟨b1, b2⟩ := neg_parts (neg x)
  refine of_parts (b1.trans a1) ?_
  rw [b2, a2, Nat.xor_assoc]; simp
theorem bin_num {op : BinOp} {o p : Option Nat} {x : Nat} (h : bin op o p = some x) : isN x = false := by
  cases o with
  | none => cases h
  | some a =>
    cases p with
    | none => simp [bin] at h
    | some b => exact bits_ok (op := op) (x := a) (y := b) h
theorem neg_word (s : Bool) {r : Nat} (h : r < 2 ^ 63) : neg (double.word s r) = double.word (!s) r := by
  have e : double.signWeight = 2 ^ 63 := rfl
  obtain ⟨p1, p2⟩ := neg_parts (double.word s r)
  refine of_parts ?_ ?_
  · rw [p1, word_mod s r h, word_mod (!s) r h]
  · rw [p2]
    unfold Format.word
    rw [e]
    cases s
    · simp only [Bool.false_eq_true, if_false, Bool.not_false, if_true]
      rw [Nat.div_eq_of_lt h, show (2 ^ 63 + r) / 2 ^ 63 = 1 by omega]; rfl
    · simp only [Bool.not_true, Bool.false_eq_true, if_false, if_true]
      rw [Nat.div_eq_of_lt h, show (2 ^ 63 + r) / 2 ^ 63 = 1 by omega]; rfl
theorem write_neg (s : Bool) (m : Nat) (e : Int) : double.write (.number (!s) m e) = neg (double.write (.number s m e)) := by
  show double.nearest (!s) m e = neg (double.nearest s m e)
  have e3 : double.infRung = 0x7ff0000000000000 := rfl
  unfold Format.nearest
  split
  · rw [neg_word s (by omega)]
  · simp only [e3]
    rw [neg_word s (by omega)]
    rfl
theorem sign_neg (x : Nat) : (neg x / 2 ^ 63 % 2 == 1) = !(x / 2 ^ 63 % 2 == 1) := by
  obtain ⟨p1, p2⟩ := neg_parts x
  rw [p2]
  have := Nat.xor_mod_two_pow (a := x / 2 ^ 63) (b := 1) (n := 1)
  simp only [Nat.pow_one] at this
  rw [this]
  rcases Nat.mod_two_eq_zero_or_one (x / 2 ^ 63) with h | h <;> rw [h] <;> decide
theorem read_opp {x : Nat} (h : isN x = false) : double.read (neg x) = (double.read x).opposite := by
  obtain ⟨p1, p2⟩ := neg_parts x
  have hs := sign_neg x
  unfold isN at h
  unfold Format.read at *
  have e1 : double.signWeight = 2 ^ 63 := rfl
  simp only [e1] at *
  rw [p1, hs]
  split
  · rfl
  · split
    · rfl
    · split
      · rfl
      · rename_i h1 h2 h3
        rw [if_neg h1, if_neg h2, if_neg h3] at h
        cases h
theorem write_opp {d : Datum} (h : d.isNaN = false) : double.write d.opposite = neg (double.write d) := by
  cases d with
  | number s m e => exact write_neg s m e
  | infinity s =>
    have e3 : double.infRung = 0x7ff0000000000000 := rfl
    show double.word (!s) double.infRung = neg (double.word s double.infRung)
    rw [neg_word _ (by rw [e3]; omega)]
  | nan s f => cases h
theorem xor_l (a b : Bool) : ((!a) ^^ b) = !(a ^^ b) := by cases a <;> cases b <;> rfl
theorem xor_r (a b : Bool) : (a ^^ !b) = !(a ^^ b) := by cases a <;> cases b <;> rfl
theorem prod_opp (d e : Datum) : d.opposite.product e = (d.product e).map Datum.opposite := by
  cases d <;> cases e <;> simp only [Datum.product, Datum.opposite, Option.map_some, Option.map_none, xor_l, xor_r] <;> (split <;> rfl)
theorem prod_opp_r (d e : Datum) : d.product e.opposite = (d.product e).map Datum.opposite := by
  cases d <;> cases e <;> simp only [Datum.product, Datum.opposite, Option.map_some, Option.map_none, xor_l, xor_r] <;> (split <;> rfl)
theorem quo_opp (n : Nat) (d e : Datum) : d.opposite.quotient n e = (d.quotient n e).map Datum.opposite := by
  cases d <;> cases e <;> simp only [Datum.quotient, Datum.opposite, Option.map_some, Option.map_none, xor_l] <;> (repeat' split) <;> rfl
theorem opp_map {o : Option Datum} (h : ∀ d, o = some d → d.isNaN = false) : (o.map Datum.opposite).map double.write = (o.map double.write).map neg := by
  cases o with
  | none => rfl
  | some d => simp only [Option.map_some]; rw [write_opp (h d rfl)]
theorem ab_opp {o : Option Nat} (h : ∀ x, o = some x → isN x = false) {x : Nat} (hx : o = some x) : isN x = false := h x hx
/-- No NaN among the words. -/
def Cl (o : Option Nat) : Prop := ∀ x, o = some x → isN x = false
theorem Cl.ab (x : Nat) : Cl (ab x) := by
  intro y hy
  have := of_ab hy
  subst this
  cases h : isN x with
  | false => rfl
  | true => rw [ab_none h] at hy; cases hy
theorem Cl.bin (op : BinOp) (o p : Option Nat) : Cl (bin op o p) := fun _ h => bin_num h
theorem Cl.neg {o : Option Nat} (h : Cl o) : Cl (o.map Go.Fl.neg) := by
  intro y hy
  cases o with
  | none => cases hy
  | some x => cases hy; rw [isN_neg]; exact h x rfl
theorem mul_neg_l {o p : Option Nat} (ho : Cl o) : bin .mul (o.map Go.Fl.neg) p = (bin .mul o p).map Go.Fl.neg := by
  cases o with
  | none => rfl
  | some x =>
    cases p with
    | none => rfl
    | some y =>
      show double.mul (Go.Fl.neg x) y = (double.mul x y).map Go.Fl.neg
      unfold Format.mul
      rw [read_opp (ho x rfl), prod_opp]
      exact opp_map fun d hd => product_ok hd
theorem mul_neg_r {o p : Option Nat} (hp : Cl p) : bin .mul o (p.map Go.Fl.neg) = (bin .mul o p).map Go.Fl.neg := by
  cases o with
  | none => rfl
  | some x =>
    cases p with
    | none => rfl
    | some y =>
      show double.mul x (Go.Fl.neg y) = (double.mul x y).map Go.Fl.neg
      unfold Format.mul
      rw [read_opp (hp y rfl), prod_opp_r]
      exact opp_map fun d hd => product_ok hd
theorem quo_neg_l {o p : Option Nat} (ho : Cl o) : bin .quo (o.map Go.Fl.neg) p = (bin .quo o p).map Go.Fl.neg := by
  cases o with
  | none => rfl
  | some x =>
    cases p with
    | none => rfl
    | some y =>
      show double.div (Go.Fl.neg x) y = (double.div x y).map Go.Fl.neg
      unfold Format.div
      rw [read_opp (ho x rfl), quo_opp]
      exact opp_map fun d hd => quotient_ok hd
/-- One of the two noughts. -/
def Zr (x : Nat) : Prop := lin x = 0
theorem write_zero (s : Bool) (e : Int) : Zr (double.write (.number s 0 e)) := by
  cases s
  · show lin 0 = 0; rfl
  · show lin (2 ^ 63) = 0; decide +kernel
theorem Zr.read {x : Nat} (h : Zr x) : ∃ s i, double.read x = .number s 0 i := by
  have hm : x % 2 ^ 63 = 0 := by
    unfold Zr lin sgn at h
    split at h <;> omega
  unfold Format.read
  have e1 : double.signWeight = 2 ^ 63 := rfl
  simp only [e1, hm]
  exact ⟨_, _, rfl⟩
theorem Zr.num {x : Nat} (h : Zr x) : isN x = false := by
  obtain ⟨s, i, e⟩ := h.read
  simp [isN, e, Datum.isNaN]
theorem Zr.neg {x : Nat} (h : Zr x) : Zr (Go.Fl.neg x) := by
  have e : lin (Go.Fl.neg x) = -lin x := by
    unfold lin
    rw [sign_neg, (neg_parts x).1]
    unfold sgn
    cases (x / 2 ^ 63 % 2 == 1) <;> simp
  unfold Zr at *
  omega
theorem Zr.floor {x : Nat} (h : Zr x) : Zr (floor x) := by
  obtain ⟨s, i, e⟩ := h.read
  unfold Go.Fl.floor
  rw [e]
  have : Toward.down.cut s (0 <<< i.toNat) (-i).toNat = 0 := by
    unfold Toward.cut
    simp [shl]
  simp only [Datum.integral, this]
  exact write_zero _ _
theorem Zr.sub {x y : Nat} (hx : Zr x) (hy : Zr y) : ∃ r, bin .sub (some x) (some y) = some r ∧ Zr r := by
  obtain ⟨s, i, ex⟩ := hx.read
  obtain ⟨t, j, ey⟩ := hy.read
  show ∃ r, double.sub x y = some r ∧ _
  unfold Format.sub
  rw [ex, ey]
  simp only [Datum.opposite, Datum.sum, Option.map_some, Option.some.injEq]
  refine ⟨_, rfl, ?_⟩
  have e : signed s 0 (i - min i j).toNat + signed (!t) 0 (j - min i j).toNat = 0 := by
    unfold signed; cases s <;> cases t <;> simp
  rw [e]
  exact write_zero _ _
theorem Zr.mul {x y : Nat} (hx : Zr x) (hy : Fnt y) : ∃ r, bin .mul (some x) (some y) = some r ∧ Zr r := by
  obtain ⟨s, i, ex⟩ := hx.read
  obtain ⟨t, n, j, ey⟩ := fin_read hy
  show ∃ r, double.mul x y = some r ∧ _
  unfold Format.mul
  rw [ex, ey]
  simp only [Datum.product, Option.map_some, Option.some.injEq, Nat.zero_mul]
  exact ⟨_, rfl, write_zero _ _⟩
/-- A difference, both signs turned: turned, or both are nought. -/
theorem sub_neg {x y r : Nat} (hx : isN x = false) (hy : isN y = false) (h : bin .sub (some x) (some y) = some r) : ∃ r', bin .sub (some (Go.Fl.neg x)) (some (Go.Fl.neg y)) = some r' ∧ (r' = Go.Fl.neg r ∨ Zr r ∧ Zr r') := by
  have h' : double.sub x y = some r := h
  show ∃ r', double.sub (Go.Fl.neg x) (Go.Fl.neg y) = some r' ∧ _
  unfold Format.sub at *
  rw [read_opp hx, read_opp hy]
  rcases not_nan hx with ⟨s, m, i, ex⟩ | ⟨s, ex⟩ <;> rcases not_nan hy with ⟨t, n, j, ey⟩ | ⟨t, ey⟩ <;> rw [ex, ey] <;> rw [ex, ey] at h'
  · simp only [Datum.opposite, Datum.sum, Option.map_some, Option.some.injEq] at *
    refine ⟨_, rfl, ?_⟩
    rw [← h']
    have e1 : signed (!s) m (i - min i j).toNat + signed (!!t) n (j - min i j).toNat = -(signed s m (i - min i j).toNat + signed (!t) n (j - min i j).toNat) := by
      unfold signed
      cases s <;> cases t <;> simp <;> omega
    rw [e1]
    generalize signed s m (i - min i j).toNat + signed (!t) n (j - min i j).toNat = z
    by_cases hz : z = 0
    · right
      subst hz
      exact ⟨write_zero _ _, write_zero _ _⟩
    · left
      rw [← write_neg, if_neg hz, if_neg (by omega)]
      congr 1
      have a : (decide (-z < 0)) = !(decide (z < 0)) := by
        rw [← decide_not, decide_eq_decide]
        omega
      rw [a, Int.natAbs_neg]
  · simp only [Datum.opposite, Datum.sum, Option.map_some, Option.some.injEq] at *
    refine ⟨_, rfl, Or.inl ?_⟩
    rw [← h', ← write_opp (by rfl)]; rfl
  · simp only [Datum.opposite, Datum.sum, Option.map_some, Option.some.injEq] at *
    refine ⟨_, rfl, Or.inl ?_⟩
    rw [← h', ← write_opp (by rfl)]; rfl
  · simp only [Datum.opposite, Datum.sum] at *
    cases s <;> cases t <;> simp at h' ⊢
    all_goals (left; rw [← h', ← write_opp (by rfl)]; rfl)
theorem write_lt {d : Datum} (h : d.isNaN = false) : double.write d < 2 ^ 64 := by
  have e1 : double.signWeight = 2 ^ 63 := rfl
  have e3 : double.infRung = 0x7ff0000000000000 := rfl
  have hw : ∀ (s : Bool) (r : Nat), r < 2 ^ 63 → double.word s r < 2 ^ 64 := by
    intro s r hr
    unfold Format.word
    rw [e1]
    split <;> omega
  cases d with
  | number s m e =>
    show double.nearest s m e < _
    unfold Format.nearest
    split
    · exact hw _ _ (by omega)
    · simp only [e3]; exact hw _ _ (by omega)
  | infinity s => exact hw _ _ (by rw [e3]; omega)
  | nan s f => cases h
theorem sub_lt {x y r : Nat} (h : bin .sub (some x) (some y) = some r) : r < 2 ^ 64 := by
  have h' : double.sub x y = some r := h
  unfold Format.sub at h'
  rw [Option.map_eq_some_iff] at h'
  obtain ⟨d, hd, rfl⟩ := h'
  exact write_lt (sum_ok hd)
theorem add_sub {x y : Nat} (hy : isN y = false) : bin .add (some x) (some y) = bin .sub (some x) (some (Go.Fl.neg y)) := by
  show double.add x y = double.sub x (Go.Fl.neg y)
  unfold Format.add Format.sub
  rw [read_opp hy]
  congr 2
  cases double.read y <;> simp [Datum.opposite]
theorem lin_neg (x : Nat) : lin (Go.Fl.neg x) = -lin x := by
  unfold lin
  rw [sign_neg, (neg_parts x).1]
  unfold sgn
  cases (x / 2 ^ 63 % 2 == 1) <;> simp
theorem ord_lin {x y : Nat} (hx : isN x = false) (hy : isN y = false) : ord (some x) (some y) = some (compare (lin x) (lin y)) := by
  have := order_ab x y
  rw [ab_some hx, ab_some hy] at this
  rw [← this]; exact order_lin hx hy
theorem gtF_lin {x y : Nat} (hx : isN x = false) (hy : isN y = false) : gtF (some x) (some y) = decide (lin y < lin x) := by
  unfold gtF; rw [ord_lin hx hy, Bool.eq_iff_iff]; simp [Int.compare_eq_ite_lt]; (repeat' split) <;> simp <;> omega
theorem ltF_lin {x y : Nat} (hx : isN x = false) (hy : isN y = false) : ltF (some x) (some y) = decide (lin x < lin y) := by
  unfold ltF; rw [ord_lin hx hy, Bool.eq_iff_iff]; simp [Int.compare_eq_ite_lt]; (repeat' split) <;> simp <;> omega
theorem eqF_lin {x y : Nat} (hx : isN x = false) (hy : isN y = false) : eqF (some x) (some y) = decide (lin x = lin y) := by
  unfold eqF; rw [ord_lin hx hy, Bool.eq_iff_iff]; simp [Int.compare_eq_ite_lt]; (repeat' split) <;> simp <;> omega
end Go.Proofs.Ytlgejebgkkmacaa

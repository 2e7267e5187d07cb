/- The other sign, noughts aside. No program. -/
import Derived.Test.YtcgbmcnefolgcaaFy
namespace Go.Proofs.Ytcgbmcnefolgcaa
open Go.Fl Ieee Go.RowKit

theorem neg_parts (x : Nat) : neg x % 2 ^ 63 = x % 2 ^ 63 ∧ neg x / 2 ^ 63 = x / 2 ^ 63 ^^^ 1 := by
  have h1 : (x ^^^ 2 ^ 63) % 2 ^ 63 = x % 2 ^ 63 := by rw [Nat.xor_mod_two_pow]; simp
  have h2 : (x ^^^ 2 ^ 63) / 2 ^ 63 = x / 2 ^ 63 ^^^ 1 := by
    have e1 : (x ^^^ 2 ^ 63) >>> 63 = x >>> 63 ^^^ 2 ^ 63 >>> 63 := Nat.shiftRight_xor_distrib
    rw [Nat.shiftRight_eq_div_pow, Nat.shiftRight_eq_div_pow] at e1
    rw [e1]; rfl
  exact ⟨h1, h2⟩
theorem of_parts {x y : Nat} (h1 : x % 2 ^ 63 = y % 2 ^ 63) (h2 : x / 2 ^ 63 = y / 2 ^ 63) : x = y := by omega
theorem neg_neg' (x : Nat) : neg (neg x) = x := by
  obtain ⟨a1, a2⟩ := neg_parts x
  obtain ⟨b1, b2⟩ := neg_parts (neg x)
  refine of_parts (b1.trans a1) ?_
  rw [b2, a2, Nat.xor_assoc]; simp
theorem bin_num {op : BinOp} {o p : Option Nat} {x : Nat} (h : bin op o p = some x) : isN x = false := by
  cases o with
  | none => cases h
  | some a =>
    cases p with
    | none => simp [bin] at h
    | some b => exact bits_ok (op := op) (x := a) (y := b) h
theorem neg_word (s : Bool) {r : Nat} (h : r < 2 ^ 63) : neg (double.word s r) = double.word (!s) r := by
  have e : double.signWeight = 2 ^ 63 := rfl
  obtain ⟨p1, p2⟩ := neg_parts (double.word s r)
  refine of_parts ?_ ?_
  · rw [p1, word_mod s r h, word_mod (!s) r h]
  · rw [p2]
    unfold Format.word
    rw [e]
    cases s
    · simp only [Bool.false_eq_true, if_false, Bool.not_false, if_true]
      rw [Nat.div_eq_of_lt h, show (2 ^ 63 + r) / 2 ^ 63 = 1 by omega]; rfl
    · simp only [Bool.not_true, Bool.false_eq_true, if_false, if_true]
      rw [Nat.div_eq_of_lt h, show (2 ^ 63 + r) / 2 ^ 63 = 1 by omega]; rfl
theorem write_neg (s : Bool) (m : Nat) (e : Int) : double.write (.number (!s) m e) = neg (double.write (.number s m e)) := by
  show double.nearest (!s) m e = neg (double.nearest s m e)
  have e3 : double.infRung = 0x7ff0000000000000 := rfl
  unfold Format.nearest
  split
  · rw [neg_word s (by omega)]
  · simp only [e3]
    rw [neg_word s (by omega)]
    rfl
theorem sign_neg (x : Nat) : (neg x / 2 ^ 63 % 2 == 1) = !(x / 2 ^ 63 % 2 == 1) := by
  obtain ⟨p1, p2⟩ := neg_parts x
  rw [p2]
  have := Nat.xor_mod_two_pow (a := x / 2 ^ 63) (b := 1) (n := 1)
  simp only [Nat.pow_one] at this
  rw [this]
  rcases Nat.mod_two_eq_zero_or_one (x / 2 ^ 63) with h | h <;> rw [h] <;> decide
theorem read_opp {x : Nat} (h : isN x = false) : double.read (neg x) = (double.read x).opposite := by
  obtain ⟨p1, p2⟩ := neg_parts x
  have hs := sign_neg x
  unfold isN at h
  unfold Format.read at *
  have e1 : double.signWeight = 2 ^ 63 := rfl
  simp only [e1] at *
  rw [p1, hs]
  split
  · rfl
  · split
    · rfl
    · split
      · rfl
      · rename_i h1 h2 h3
        rw [if_neg h1, if_neg h2, if_neg h3] at h
        cases h
theorem write_opp {d : Datum} (h : d.isNaN = false) : double.write d.opposite = neg (double.write d) := by
  cases d with
  | number s m e => exact write_neg s m e
  | infinity s =>
    have e3 : double.infRung = 0x7ff0000000000000 := rfl
    show double.word (!s) double.infRung = neg (double.word s double.infRung)
    rw [neg_word _ (by rw [e3]; omega)]
  | nan s f => cases h
theorem xor_l (a b : Bool) : ((!a) ^^ b) = !(a ^^ b) := by cases a <;> cases b <;> rfl
theorem xor_r (a b : Bool) : (a ^^ !b) = !(a ^^ b) := by cases a <;> cases b <;> rfl
theorem quo_opp (n : Nat) (d e : Datum) : d.opposite.quotient n e = (d.quotient n e).map Datum.opposite := by
  cases d <;> cases e <;> simp only [Datum.quotient, Datum.opposite, Option.map_some, Option.map_none, xor_l] <;> (repeat' split) <;> rfl
theorem opp_map {o : Option Datum} (h : ∀ d, o = some d → d.isNaN = false) : (o.map Datum.opposite).map double.write = (o.map double.write).map neg := by
  cases o with
  | none => rfl
  | some d => simp only [Option.map_some]; rw [write_opp (h d rfl)]
def ClN (o : Option Nat) : Prop := ∀ x, o = some x → isN x = false
theorem ClN.ab (x : Nat) : ClN (ab x) := by
  intro y hy
  have := of_ab hy
  subst this
  cases h : isN x with
  | false => rfl
  | true => rw [ab_none h] at hy; cases hy
theorem ClN.bin (op : BinOp) (o p : Option Nat) : ClN (bin op o p) := fun _ h => bin_num h
theorem ClN.neg {o : Option Nat} (h : ClN o) : ClN (o.map Go.Fl.neg) := by
  intro y hy
  cases o with
  | none => cases hy
  | some x => cases hy; rw [isN_neg]; exact h x rfl
theorem quo_neg_l {o p : Option Nat} (ho : ClN o) : bin .quo (o.map Go.Fl.neg) p = (bin .quo o p).map Go.Fl.neg := by
  cases o with
  | none => rfl
  | some x =>
    cases p with
    | none => rfl
    | some y =>
      show double.div (Go.Fl.neg x) y = (double.div x y).map Go.Fl.neg
      unfold Format.div
      rw [read_opp (ho x rfl), quo_opp]
      exact opp_map fun d hd => quotient_ok hd
def Zr (x : Nat) : Prop := lin x = 0
theorem write_zero (s : Bool) (e : Int) : Zr (double.write (.number s 0 e)) := by
  cases s
  · show lin 0 = 0; rfl
  · show lin (2 ^ 63) = 0; decide +kernel
theorem Zr.read {x : Nat} (h : Zr x) : ∃ s i, double.read x = .number s 0 i := by
  have hm : x % 2 ^ 63 = 0 := by
    unfold Zr lin sgn at h
    split at h <;> omega
  unfold Format.read
  have e1 : double.signWeight = 2 ^ 63 := rfl
  simp only [e1, hm]
  exact ⟨_, _, rfl⟩
theorem Zr.num {x : Nat} (h : Zr x) : isN x = false := by
  obtain ⟨s, i, e⟩ := h.read
  simp [isN, e, Datum.isNaN]
theorem Zr.neg {x : Nat} (h : Zr x) : Zr (Go.Fl.neg x) := by
  have e : lin (Go.Fl.neg x) = -lin x := by
    unfold lin
    rw [sign_neg, (neg_parts x).1]
    unfold sgn
    cases (x / 2 ^ 63 % 2 == 1) <;> simp
  unfold Zr at *
  omega
theorem lin_neg (x : Nat) : lin (Go.Fl.neg x) = -lin x := by
  unfold lin
  rw [sign_neg, (neg_parts x).1]
  unfold sgn
  cases (x / 2 ^ 63 % 2 == 1) <;> simp
theorem ord_lin {x y : Nat} (hx : isN x = false) (hy : isN y = false) : ord (some x) (some y) = some (compare (lin x) (lin y)) := by
  have := order_ab x y
  rw [ab_some hx, ab_some hy] at this
  rw [← this]; exact order_lin hx hy
theorem sub_swap {x y : Nat} (hx : isN x = false) (hy : isN y = false) : (bin .sub (some x) (some y) = none ∧ bin .sub (some y) (some x) = none) ∨ ∃ r r', bin .sub (some x) (some y) = some r ∧ bin .sub (some y) (some x) = some r' ∧ (r' = Go.Fl.neg r ∨ Zr r ∧ Zr r') := by
  show (double.sub x y = none ∧ double.sub y x = none) ∨ ∃ r r', double.sub x y = some r ∧ double.sub y x = some r' ∧ _
  unfold Format.sub
  rcases not_nan hx with ⟨s, m, i, ex⟩ | ⟨s, ex⟩ <;> rcases not_nan hy with ⟨t, n, j, ey⟩ | ⟨t, ey⟩ <;> rw [ex, ey]
  · right
    simp only [Datum.opposite, Datum.sum, Option.map_some, Option.some.injEq]
    refine ⟨_, _, rfl, rfl, ?_⟩
    rw [show min j i = min i j by omega]
    have e1 : signed t n (j - min i j).toNat + signed (!s) m (i - min i j).toNat = -(signed s m (i - min i j).toNat + signed (!t) n (j - min i j).toNat) := by
      unfold signed
      cases s <;> cases t <;> simp <;> omega
    rw [e1]
    generalize signed s m (i - min i j).toNat + signed (!t) n (j - min i j).toNat = z
    by_cases hz : z = 0
    · right
      subst hz
      exact ⟨write_zero _ _, write_zero _ _⟩
    · left
      rw [← write_neg, if_neg hz, if_neg (by omega)]
      congr 1
      have a : (decide (-z < 0)) = !(decide (z < 0)) := by
        rw [← decide_not, decide_eq_decide]
        omega
      rw [a, Int.natAbs_neg]
  · right
    simp only [Datum.opposite, Datum.sum, Option.map_some, Option.some.injEq]
    refine ⟨_, _, rfl, rfl, Or.inl ?_⟩
    rw [← write_opp (by rfl)]; simp [Datum.opposite]
  · right
    simp only [Datum.opposite, Datum.sum, Option.map_some, Option.some.injEq]
    refine ⟨_, _, rfl, rfl, Or.inl ?_⟩
    rw [← write_opp (by rfl)]; rfl
  · simp only [Datum.opposite, Datum.sum]
    cases s <;> cases t <;> simp
    all_goals (left; rw [← write_opp (by rfl)]; rfl)
theorem add_swap (x y : Nat) : bin .add (some x) (some y) = bin .add (some y) (some x) := by
  show double.add x y = double.add y x
  unfold Format.add
  congr 1
  cases double.read x <;> cases double.read y <;> simp only [Datum.sum]
  · rename_i s m i t n j
    rw [show min j i = min i j by omega, Int.add_comm, Bool.and_comm]
  · rename_i s t
    cases s <;> cases t <;> simp
theorem zero_quo {x : Nat} (h : Zr x) (y : Nat) : bin .quo (some x) (some y) = none ∨ ∃ r, bin .quo (some x) (some y) = some r ∧ Zr r := by
  obtain ⟨s, i, ex⟩ := h.read
  show double.div x y = none ∨ ∃ r, double.div x y = some r ∧ _
  unfold Format.div
  rw [ex]
  cases double.read y with
  | nan s f => left; rfl
  | infinity t => right; exact ⟨_, rfl, write_zero _ _⟩
  | number t n j =>
    simp only [Datum.quotient]
    by_cases hn : n = 0
    · left; simp [hn]
    · right
      rw [if_neg hn]
      refine ⟨_, rfl, ?_⟩
      simp
      exact write_zero _ _
theorem Zr.sub {x y : Nat} (hx : Zr x) (hy : Zr y) : ∃ r, bin .sub (some x) (some y) = some r ∧ Zr r := by
  obtain ⟨s, i, ex⟩ := hx.read
  obtain ⟨t, j, ey⟩ := hy.read
  show ∃ r, double.sub x y = some r ∧ _
  unfold Format.sub
  rw [ex, ey]
  simp only [Datum.opposite, Datum.sum, Option.map_some, Option.some.injEq]
  refine ⟨_, rfl, ?_⟩
  have e : signed s 0 (i - min i j).toNat + signed (!t) 0 (j - min i j).toNat = 0 := by
    unfold signed; cases s <;> cases t <;> simp
  rw [e]
  exact write_zero _ _
theorem sub_neg {x y r : Nat} (hx : isN x = false) (hy : isN y = false) (h : bin .sub (some x) (some y) = some r) : ∃ r', bin .sub (some (Go.Fl.neg x)) (some (Go.Fl.neg y)) = some r' ∧ (r' = Go.Fl.neg r ∨ Zr r ∧ Zr r') := by
  have h' : double.sub x y = some r := h
  show ∃ r', double.sub (Go.Fl.neg x) (Go.Fl.neg y) = some r' ∧ _
  unfold Format.sub at *
  rw [read_opp hx, read_opp hy]
  rcases not_nan hx with ⟨s, m, i, ex⟩ | ⟨s, ex⟩ <;> rcases not_nan hy with ⟨t, n, j, ey⟩ | ⟨t, ey⟩ <;> rw [ex, ey] <;> rw [ex, ey] at h'
  · simp only [Datum.opposite, Datum.sum, Option.map_some, Option.some.injEq] at *
    refine ⟨_, rfl, ?_⟩
    rw [← h']
    have e1 : signed (!s) m (i - min i j).toNat + signed (!!t) n (j - min i j).toNat = -(signed s m (i - min i j).toNat + signed (!t) n (j - min i j).toNat) := by
      unfold signed
      cases s <;> cases t <;> simp <;> omega
    rw [e1]
    generalize signed s m (i - min i j).toNat + signed (!t) n (j - min i j).toNat = z
    by_cases hz : z = 0
    · right
      subst hz
      exact ⟨write_zero _ _, write_zero _ _⟩
    · left
      rw [← write_neg, if_neg hz, if_neg (by omega)]
      congr 1
      have a : (decide (-z < 0)) = !(decide (z < 0)) := by
        rw [← decide_not, decide_eq_decide]
        omega
      rw [a, Int.natAbs_neg]
  · simp only [Datum.opposite, Datum.sum, Option.map_some, Option.some.injEq] at *
    refine ⟨_, rfl, Or.inl ?_⟩
    rw [← h', ← write_opp (by rfl)]; rfl
  · simp only [Datum.opposite, Datum.sum, Option.map_some, Option.some.injEq] at *
    refine ⟨_, rfl, Or.inl ?_⟩
    rw [← h', ← write_opp (by rfl)]; rfl
  · simp only [Datum.opposite, Datum.sum] at *
    cases s <;> cases t <;> simp at h' ⊢
    all_goals (left; rw [← h', ← write_opp (by rfl)]; rfl)
theorem sub_neg_none {x y : Nat} (hx : isN x = false) (hy : isN y = false) (h : bin .sub (some x) (some y) = none) : bin .sub (some (Go.Fl.neg x)) (some (Go.Fl.neg y)) = none := by
  cases q : bin .sub (some (Go.Fl.neg x)) (some (Go.Fl.neg y)) with
  | none => rfl
  | some r =>
    obtain ⟨r', e, _⟩ := sub_neg (by rw [isN_neg]; exact hx) (by rw [isN_neg]; exact hy) q
    rw [neg_neg', neg_neg', h] at e
    cases e
theorem Zr.fnt {x : Nat} (h : Zr x) : Fnt x := by
  unfold Zr lin sgn at h
  unfold Fnt
  split at h <;> omega
theorem Zr.v0 {x : Nat} (h : Zr x) : val x = 0 := by
  have e : x % 2 ^ 63 = 0 := by unfold Zr lin sgn at h; split at h <;> omega
  unfold val
  rw [e]
  have : sgn (x / 2 ^ 63 % 2 == 1) (mag 0) = 0 := by unfold sgn mag; split <;> rfl
  rw [this]
  simp
theorem fnt_or {x : Nat} (h : isN x = false) : Fnt x ∨ ∃ s, double.read x = .infinity s := by
  rcases not_nan h with ⟨s, m, e, k⟩ | ⟨s, k⟩
  · left
    unfold Fnt
    have := read_num k
    rw [isN_mod] at h
    rcases Nat.lt_or_ge (x % 2 ^ 63) 0x7ff0000000000000 with q | q
    · exact q
    · exfalso
      have q2 : x % 2 ^ 63 = 0x7ff0000000000000 := by simp at h; omega
      have e1 : double.signWeight = 2 ^ 63 := rfl
      have e2 : double.binade = 2 ^ 52 := rfl
      have e3 : double.infRung = 0x7ff0000000000000 := rfl
      unfold Format.read at k
      simp only [e1, e2, e3, q2] at k
      simp at k
  · exact Or.inr ⟨s, k⟩
/-- Less a nought. -/
theorem sub_zero_r {x z : Nat} (hx : isN x = false) (hz : Zr z) : ∃ r, bin .sub (some x) (some z) = some r ∧ lin r = lin x := by
  obtain ⟨s, i, ez⟩ := hz.read
  rcases fnt_or hx with hf | ⟨t, ex⟩
  · obtain ⟨r, hr⟩ := sub_some (fin_read hf) hz.num
    have hr' : bin .sub (some x) (some z) = some r := hr
    refine ⟨r, hr', ?_⟩
    obtain ⟨h1, h2⟩ := sub_lin hf hz.fnt hf hr'
    have e : val x - val z = val x := by rw [hz.v0]; grind
    exact Int.le_antisymm (h1 (by rw [e]; exact Rat.le_refl)) (h2 (by rw [e]; exact Rat.le_refl))
  · refine ⟨double.write (.infinity t), ?_, ?_⟩
    · show double.sub x z = _
      unfold Format.sub
      rw [ex, ez]; rfl
    · obtain ⟨q1, q2⟩ := read_inf ex
      show lin (double.word t 0x7ff0000000000000) = _
      rw [lin_inf]
      unfold lin sgn
      rw [← q1, q2]
      rfl
theorem sub_zero_l {x z : Nat} (hx : isN x = false) (hz : Zr z) : ∃ r, bin .sub (some z) (some x) = some r ∧ lin r = -lin x := by
  obtain ⟨s, i, ez⟩ := hz.read
  rcases fnt_or hx with hf | ⟨t, ex⟩
  · obtain ⟨r, hr⟩ := sub_some (fin_read hz.fnt) hx
    have hr' : bin .sub (some z) (some x) = some r := hr
    refine ⟨r, hr', ?_⟩
    obtain ⟨h1, h2⟩ := sub_lin hz.fnt hf (fin_neg hf) hr'
    have e : val z - val x = val (Go.Fl.neg x) := by rw [hz.v0, vneg]; grind
    rw [← lin_neg]
    exact Int.le_antisymm (h1 (by rw [e]; exact Rat.le_refl)) (h2 (by rw [e]; exact Rat.le_refl))
  · refine ⟨double.write (.infinity (!t)), ?_, ?_⟩
    · show double.sub z x = _
      unfold Format.sub
      rw [ex, ez]; rfl
    · obtain ⟨q1, q2⟩ := read_inf ex
      show lin (double.word (!t) 0x7ff0000000000000) = _
      rw [lin_inf]
      unfold lin sgn
      rw [← q1, q2]
      cases t <;> rfl
/-- Turned about: the other sign, or noughts. -/
def Tn (o p : Option Nat) : Prop := (o = none ∧ p = none) ∨ ∃ x y, o = some x ∧ p = some y ∧ isN x = false ∧ isN y = false ∧ (y = Go.Fl.neg x ∨ Zr x ∧ Zr y)
theorem tn_neg (x : Nat) : Tn (ab x) (ab (Go.Fl.neg x)) := by
  cases h : isN x with
  | true => left; exact ⟨ab_none h, ab_none (by rw [isN_neg]; exact h)⟩
  | false => right; exact ⟨x, Go.Fl.neg x, ab_some h, ab_some (by rw [isN_neg]; exact h), h, by rw [isN_neg]; exact h, Or.inl rfl⟩
/-- The difference of numbers that are just turned. -/
theorem tn_sub (x y : Nat) : Tn (bin .sub (ab x) (ab y)) (bin .sub (ab (Go.Fl.neg x)) (ab (Go.Fl.neg y))) := by
  rw [ab_neg, ab_neg]
  cases hx : isN x with
  | true => left; rw [ab_none hx]; exact ⟨rfl, rfl⟩
  | false =>
    cases hy : isN y with
    | true => left; rw [ab_some hx, ab_none hy]; exact ⟨rfl, rfl⟩
    | false =>
      rw [ab_some hx, ab_some hy]
      show Tn (bin .sub (some x) (some y)) (bin .sub (some (Go.Fl.neg x)) (some (Go.Fl.neg y)))
      cases h : bin .sub (some x) (some y) with
      | none => left; exact ⟨rfl, sub_neg_none hx hy h⟩
      | some r =>
        obtain ⟨r', e, k⟩ := sub_neg hx hy h
        right
        exact ⟨r, r', rfl, e, bin_num h, bin_num e, k⟩
theorem tn_quo {o p : Option Nat} (h : Tn o p) (d : Option Nat) : Tn (bin .quo o d) (bin .quo p d) := by
  rcases h with ⟨rfl, rfl⟩ | ⟨x, y, rfl, rfl, hx, hy, k⟩
  · left; exact ⟨rfl, rfl⟩
  · rcases k with rfl | ⟨z1, z2⟩
    · have e := quo_neg_l (o := some x) (p := d) (fun a ha => by cases ha; exact hx)
      rw [show (some x).map Go.Fl.neg = some (Go.Fl.neg x) from rfl] at e
      rw [e]
      cases q : bin .quo (some x) d with
      | none => left; exact ⟨rfl, rfl⟩
      | some r => right; exact ⟨r, Go.Fl.neg r, rfl, rfl, bin_num q, by rw [isN_neg]; exact bin_num q, Or.inl rfl⟩
    · cases d with
      | none => left; exact ⟨rfl, rfl⟩
      | some t =>
        obtain ⟨s1, i1, e1⟩ := z1.read
        obtain ⟨s2, i2, e2⟩ := z2.read
        show Tn (double.div x t) (double.div y t)
        unfold Format.div
        rw [e1, e2]
        cases double.read t with
        | nan s f => left; exact ⟨rfl, rfl⟩
        | infinity u => right; exact ⟨_, _, rfl, rfl, write_ok rfl, write_ok rfl, Or.inr ⟨write_zero _ _, write_zero _ _⟩⟩
        | number u n j =>
          simp only [Datum.quotient]
          by_cases hn : n = 0
          · left; simp [hn]
          · right
            rw [if_neg hn, if_neg hn]
            refine ⟨_, _, rfl, rfl, write_ok rfl, write_ok rfl, Or.inr ?_⟩
            simp
            exact ⟨write_zero _ _, write_zero _ _⟩
theorem lin_abs (r : Nat) : lin (Go.Fl.abs r) = (lin r).natAbs := by
  unfold Go.Fl.abs
  rw [lin_low (Nat.mod_lt _ (by decide))]
  unfold lin sgn
  split <;> simp only [Int.natAbs_neg, Int.natAbs_natCast]
theorem abs_gt {r r' : Nat} (h : isN r = false) (h' : isN r' = false) (e : lin r' = -lin r) (m : Option Nat) : gtF ((some r).map Go.Fl.abs) m = gtF ((some r').map Go.Fl.abs) m := by
  cases m with
  | none => rfl
  | some z =>
    show (double.order (Go.Fl.abs r) z == some .gt) = (double.order (Go.Fl.abs r') z == some .gt)
    cases hz : isN z with
    | true => rw [order_nanR hz, order_nanR hz]
    | false => rw [order_lin (by rw [isN_abs]; exact h) hz, order_lin (by rw [isN_abs]; exact h') hz, lin_abs, lin_abs, e, Int.natAbs_neg]
/-- The differences of two that are turned are turned. -/
theorem tn_gt {a b a' b' : Option Nat} (h : Tn a a') (k : Tn b b') (m : Option Nat) : gtF ((bin .sub a b).map Go.Fl.abs) m = gtF ((bin .sub a' b').map Go.Fl.abs) m := by
  rcases h with ⟨rfl, rfl⟩ | ⟨x, x', rfl, rfl, hx, hx', h⟩
  · rfl
  · rcases k with ⟨rfl, rfl⟩ | ⟨y, y', rfl, rfl, hy, hy', k⟩
    · rfl
    · rcases h with rfl | ⟨z1, z2⟩
      · rcases k with rfl | ⟨z3, z4⟩
        · cases q : bin .sub (some x) (some y) with
          | none => rw [sub_neg_none hx hy q]
          | some r =>
            obtain ⟨r', e, k⟩ := sub_neg hx hy q
            rw [e]
            refine abs_gt (bin_num q) (bin_num e) ?_ m
            rcases k with rfl | ⟨k1, k2⟩
            · exact lin_neg r
            · unfold Zr at k1 k2; rw [k1, k2]; rfl
        · obtain ⟨r, e1, l1⟩ := sub_zero_r hx z3
          obtain ⟨r', e2, l2⟩ := sub_zero_r hx' z4
          rw [e1, e2]
          exact abs_gt (bin_num e1) (bin_num e2) (by rw [l1, l2, lin_neg]) m
      · rcases k with rfl | ⟨z3, z4⟩
        · obtain ⟨r, e1, l1⟩ := sub_zero_l hy z1
          obtain ⟨r', e2, l2⟩ := sub_zero_l hy' z2
          rw [e1, e2]
          exact abs_gt (bin_num e1) (bin_num e2) (by rw [l1, l2, lin_neg]) m
        · obtain ⟨r, e1, l1⟩ := z1.sub z3
          obtain ⟨r', e2, l2⟩ := z2.sub z4
          rw [e1, e2]
          exact abs_gt (bin_num e1) (bin_num e2) (by unfold Zr at l1 l2; rw [l1, l2]; rfl) m
end Go.Proofs.Ytcgbmcnefolgcaa

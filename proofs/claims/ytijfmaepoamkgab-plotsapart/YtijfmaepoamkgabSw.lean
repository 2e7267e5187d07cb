/- The other sign: two floats are as far apart as the other way round. No program. -/
import Derived.Test.YtijfmaepoamkgabKb
namespace Go.Proofs.Ytijfmaepoamkgab.Sw
open Go.Fl Ieee Go.RowKit

theorem neg_parts (x : Nat) : neg x % 2 ^ 63 = x % 2 ^ 63 ∧ neg x / 2 ^ 63 = x / 2 ^ 63 ^^^ 1 := by
  have h1 : (x ^^^ 2 ^ 63) % 2 ^ 63 = x % 2 ^ 63 := by rw [Nat.xor_mod_two_pow]; simp
  have h2 : (x ^^^ 2 ^ 63) / 2 ^ 63 = x / 2 ^ 63 ^^^ 1 := by
    have e1 : (x ^^^ 2 ^ 63) >>> 63 = x >>> 63 ^^^ 2 ^ 63 >>> 63 := Nat.shiftRight_xor_distrib
    rw [Nat.shiftRight_eq_div_pow, Nat.shiftRight_eq_div_pow] at e1
    rw [e1]; rfl
  exact ⟨h1, h2⟩
theorem of_parts {x y : Nat} (h1 : x % 2 ^ 63 = y % 2 ^ 63) (h2 : x / 2 ^ 63 = y / 2 ^ 63) : x = y := by omega
theorem neg_neg' (x : Nat) : neg (neg x) = x := by
  obtain ⟨a1, a2⟩ := neg_parts x
  obtain ⟨b1, b2⟩ := neg_parts (neg x)
  refine of_parts (b1.trans a1) ?_
  rw [b2, a2, Nat.xor_assoc]; simp
theorem bin_num {op : BinOp} {o p : Option Nat} {x : Nat} (h : bin op o p = some x) : isN x = false := by
  cases o with
  | none => cases h
  | some a =>
    cases p with
    | none => simp [bin] at h
    | some b => exact bits_ok (op := op) (x := a) (y := b) h
theorem neg_word (s : Bool) {r : Nat} (h : r < 2 ^ 63) : neg (double.word s r) = double.word (!s) r := by
  have e : double.signWeight = 2 ^ 63 := rfl
  obtain ⟨p1, p2⟩ := neg_parts (double.word s r)
  refine of_parts ?_ ?_
  · rw [p1, word_mod s r h, word_mod (!s) r h]
  · rw [p2]
    unfold Format.word
    rw [e]
    cases s
    · simp only [Bool.false_eq_true, if_false, Bool.not_false, if_true]
      rw [Nat.div_eq_of_lt h, show (2 ^ 63 + r) / 2 ^ 63 = 1 by omega]; rfl
    · simp only [Bool.not_true, Bool.false_eq_true, if_false, if_true]
      rw [Nat.div_eq_of_lt h, show (2 ^ 63 + r) / 2 ^ 63 = 1 by omega]; rfl
theorem write_neg (s : Bool) (m : Nat) (e : Int) : double.write (.number (!s) m e) = neg (double.write (.number s m e)) := by
  show double.nearest (!s) m e = neg (double.nearest s m e)
  have e3 : double.infRung = 0x7ff0000000000000 := rfl
  unfold Format.nearest
  split
  · rw [neg_word s (by omega)]
  · simp only [e3]
    rw [neg_word s (by omega)]
    rfl
theorem sign_neg (x : Nat) : (neg x / 2 ^ 63 % 2 == 1) = !(x / 2 ^ 63 % 2 == 1) := by
  obtain ⟨p1, p2⟩ := neg_parts x
  rw [p2]
  have := Nat.xor_mod_two_pow (a := x / 2 ^ 63) (b := 1) (n := 1)
  simp only [Nat.pow_one] at this
  rw [this]
  rcases Nat.mod_two_eq_zero_or_one (x / 2 ^ 63) with h | h <;> rw [h] <;> decide
theorem read_opp {x : Nat} (h : isN x = false) : double.read (neg x) = (double.read x).opposite := by
  obtain ⟨p1, p2⟩ := neg_parts x
  have hs := sign_neg x
  unfold isN at h
  unfold Format.read at *
  have e1 : double.signWeight = 2 ^ 63 := rfl
  simp only [e1] at *
  rw [p1, hs]
  split
  · rfl
  · split
    · rfl
    · split
      · rfl
      · rename_i h1 h2 h3
        rw [if_neg h1, if_neg h2, if_neg h3] at h
        cases h
theorem write_opp {d : Datum} (h : d.isNaN = false) : double.write d.opposite = neg (double.write d) := by
  cases d with
  | number s m e => exact write_neg s m e
  | infinity s =>
    have e3 : double.infRung = 0x7ff0000000000000 := rfl
    show double.word (!s) double.infRung = neg (double.word s double.infRung)
    rw [neg_word _ (by rw [e3]; omega)]
  | nan s f => cases h
theorem xor_l (a b : Bool) : ((!a) ^^ b) = !(a ^^ b) := by cases a <;> cases b <;> rfl
theorem xor_r (a b : Bool) : (a ^^ !b) = !(a ^^ b) := by cases a <;> cases b <;> rfl
theorem quo_opp (n : Nat) (d e : Datum) : d.opposite.quotient n e = (d.quotient n e).map Datum.opposite := by
  cases d <;> cases e <;> simp only [Datum.quotient, Datum.opposite, Option.map_some, Option.map_none, xor_l] <;> (repeat' split) <;> rfl
theorem opp_map {o : Option Datum} (h : ∀ d, o = some d → d.isNaN = false) : (o.map Datum.opposite).map double.write = (o.map double.write).map neg := by
  cases o with
  | none => rfl
  | some d => simp only [Option.map_some]; rw [write_opp (h d rfl)]
def ClN (o : Option Nat) : Prop := ∀ x, o = some x → isN x = false
theorem ClN.ab (x : Nat) : ClN (ab x) := by
  intro y hy
  have := of_ab hy
  subst this
  cases h : isN x with
  | false => rfl
  | true => rw [ab_none h] at hy; cases hy
theorem ClN.bin (op : BinOp) (o p : Option Nat) : ClN (bin op o p) := fun _ h => bin_num h
theorem ClN.neg {o : Option Nat} (h : ClN o) : ClN (o.map Go.Fl.neg) := by
  intro y hy
  cases o with
  | none => cases hy
  | some x => cases hy; rw [isN_neg]; exact h x rfl
theorem quo_neg_l {o p : Option Nat} (ho : ClN o) : bin .quo (o.map Go.Fl.neg) p = (bin .quo o p).map Go.Fl.neg := by
  cases o with
  | none => rfl
  | some x =>
    cases p with
    | none => rfl
    | some y =>
      show double.div (Go.Fl.neg x) y = (double.div x y).map Go.Fl.neg
      unfold Format.div
      rw [read_opp (ho x rfl), quo_opp]
      exact opp_map fun d hd => quotient_ok hd
def Zr (x : Nat) : Prop := lin x = 0
theorem write_zero (s : Bool) (e : Int) : Zr (double.write (.number s 0 e)) := by
  cases s
  · show lin 0 = 0; rfl
  · show lin (2 ^ 63) = 0; decide +kernel
theorem Zr.read {x : Nat} (h : Zr x) : ∃ s i, double.read x = .number s 0 i := by
  have hm : x % 2 ^ 63 = 0 := by
    unfold Zr lin sgn at h
    split at h <;> omega
  unfold Format.read
  have e1 : double.signWeight = 2 ^ 63 := rfl
  simp only [e1, hm]
  exact ⟨_, _, rfl⟩
theorem Zr.num {x : Nat} (h : Zr x) : isN x = false := by
  obtain ⟨s, i, e⟩ := h.read
  simp [isN, e, Datum.isNaN]
theorem Zr.neg {x : Nat} (h : Zr x) : Zr (Go.Fl.neg x) := by
  have e : lin (Go.Fl.neg x) = -lin x := by
    unfold lin
    rw [sign_neg, (neg_parts x).1]
    unfold sgn
    cases (x / 2 ^ 63 % 2 == 1) <;> simp
  unfold Zr at *
  omega
theorem lin_neg (x : Nat) : lin (Go.Fl.neg x) = -lin x := by
  unfold lin
  rw [sign_neg, (neg_parts x).1]
  unfold sgn
  cases (x / 2 ^ 63 % 2 == 1) <;> simp
theorem ord_lin {x y : Nat} (hx : isN x = false) (hy : isN y = false) : ord (some x) (some y) = some (compare (lin x) (lin y)) := by
  have := order_ab x y
  rw [ab_some hx, ab_some hy] at this
  rw [← this]; exact order_lin hx hy
theorem gtF_lin {x y : Nat} (hx : isN x = false) (hy : isN y = false) : gtF (some x) (some y) = decide (lin y < lin x) := by
  unfold gtF; rw [ord_lin hx hy, Bool.eq_iff_iff]; simp [Int.compare_eq_ite_lt]; (repeat' split) <;> simp <;> omega
theorem ltF_lin {x y : Nat} (hx : isN x = false) (hy : isN y = false) : ltF (some x) (some y) = decide (lin x < lin y) := by
  unfold ltF; rw [ord_lin hx hy, Bool.eq_iff_iff]; simp [Int.compare_eq_ite_lt]; (repeat' split) <;> simp <;> omega
theorem eqF_lin {x y : Nat} (hx : isN x = false) (hy : isN y = false) : eqF (some x) (some y) = decide (lin x = lin y) := by
  unfold eqF; rw [ord_lin hx hy, Bool.eq_iff_iff]; simp [Int.compare_eq_ite_lt]; (repeat' split) <;> simp <;> omega
/-- A difference, and the other way round. -/
theorem sub_swap {x y : Nat} (hx : isN x = false) (hy : isN y = false) : (bin .sub (some x) (some y) = none ∧ bin .sub (some y) (some x) = none) ∨ ∃ r r', bin .sub (some x) (some y) = some r ∧ bin .sub (some y) (some x) = some r' ∧ (r' = Go.Fl.neg r ∨ Zr r ∧ Zr r') := by
  show (double.sub x y = none ∧ double.sub y x = none) ∨ ∃ r r', double.sub x y = some r ∧ double.sub y x = some r' ∧ _
  unfold Format.sub
  rcases not_nan hx with ⟨s, m, i, ex⟩ | ⟨s, ex⟩ <;> rcases not_nan hy with ⟨t, n, j, ey⟩ | ⟨t, ey⟩ <;> rw [ex, ey]
  · right
    simp only [Datum.opposite, Datum.sum, Option.map_some, Option.some.injEq]
    refine ⟨_, _, rfl, rfl, ?_⟩
    rw [show min j i = min i j by omega]
    have e1 : signed t n (j - min i j).toNat + signed (!s) m (i - min i j).toNat = -(signed s m (i - min i j).toNat + signed (!t) n (j - min i j).toNat) := by
      unfold signed
      cases s <;> cases t <;> simp <;> omega
    rw [e1]
    generalize signed s m (i - min i j).toNat + signed (!t) n (j - min i j).toNat = z
    by_cases hz : z = 0
    · right
      subst hz
      exact ⟨write_zero _ _, write_zero _ _⟩
    · left
      rw [← write_neg, if_neg hz, if_neg (by omega)]
      congr 1
      have a : (decide (-z < 0)) = !(decide (z < 0)) := by
        rw [← decide_not, decide_eq_decide]
        omega
      rw [a, Int.natAbs_neg]
  · right
    simp only [Datum.opposite, Datum.sum, Option.map_some, Option.some.injEq]
    refine ⟨_, _, rfl, rfl, Or.inl ?_⟩
    rw [← write_opp (by rfl)]; simp [Datum.opposite]
  · right
    simp only [Datum.opposite, Datum.sum, Option.map_some, Option.some.injEq]
    refine ⟨_, _, rfl, rfl, Or.inl ?_⟩
    rw [← write_opp (by rfl)]; rfl
  · simp only [Datum.opposite, Datum.sum]
    cases s <;> cases t <;> simp
    all_goals (left; rw [← write_opp (by rfl)]; rfl)
theorem abs_neg (x : Nat) : abs (Go.Fl.neg x) = abs x := (neg_parts x).1
theorem abs_zr {x : Nat} (h : Zr x) : abs x = 0 := by
  unfold abs
  unfold Zr lin sgn at h
  split at h <;> omega
theorem dist_comm (x y : Nat) : (bin .sub (ab x) (ab y)).map abs = (bin .sub (ab y) (ab x)).map abs := by
  cases hx : isN x
  · cases hy : isN y
    · rw [ab_some hx, ab_some hy]
      rcases sub_swap hx hy with ⟨h1, h2⟩ | ⟨r, r', h1, h2, h3⟩
      · rw [h1, h2]
      · rw [h1, h2]
        rcases h3 with rfl | ⟨h3, h4⟩
        · simp [abs_neg]
        · simp [abs_zr h3, abs_zr h4]
    · rw [ab_none hy, ab_some hx]; rfl
  · rw [ab_none hx]
    cases hy : isN y
    · rw [ab_some hy]; rfl
    · rw [ab_none hy]
end Go.Proofs.Ytijfmaepoamkgab.Sw
namespace Go.Proofs.Ytijfmaepoamkgab
open Go.Fl
theorem withB_comm (x y m : Nat) : withB x y m = withB y x m := by unfold withB; rw [Sw.dist_comm]
theorem nearB_comm (m s : Nat) (p q : Plt) : nearB m s p q = nearB m s q p := by unfold nearB; rw [withB_comm p.r, withB_comm p.s]
/-- None of the first k is near the i-th. -/
def apR (P : Nat → Plt) (m s i : Nat) : Nat → Bool
  | 0 => true
  | k + 1 => apR P m s i k && !nearB m s (P i) (P k)
/-- None of the first i is near another one. -/
def ap (P : Nat → Plt) (m s : Nat) : Nat → Bool
  | 0 => true
  | i + 1 => ap P m s i && apR P m s i i
theorem apR_at {P : Nat → Plt} {m s i : Nat} : ∀ {k j : Nat}, apR P m s i k = true → j < k → nearB m s (P i) (P j) = false
  | k + 1, j, h, hj => by
    simp only [apR, Bool.and_eq_true, Bool.not_eq_true'] at h
    rcases Nat.lt_or_ge j k with h1 | h1
    · exact apR_at h.1 h1
    · obtain rfl : j = k := by omega
      exact h.2
theorem ap_at {P : Nat → Plt} {m s : Nat} : ∀ {n i j : Nat}, ap P m s n = true → i < n → j < i → nearB m s (P i) (P j) = false
  | n + 1, i, j, h, hi, hj => by
    simp only [ap, Bool.and_eq_true] at h
    rcases Nat.lt_or_ge i n with h1 | h1
    · exact ap_at h.1 h1 hj
    · obtain rfl : i = n := by omega
      exact apR_at h.2 hj
theorem ap_any {P : Nat → Plt} {m s n i j : Nat} (h : ap P m s n = true) (hi : i < n) (hj : j < n) (hne : i ≠ j) : nearB m s (P i) (P j) = false := by
  rcases Nat.lt_or_ge j i with h1 | h1
  · exact ap_at h hi h1
  · rw [nearB_comm]; exact ap_at h hj (by omega)
theorem ap_mg {P : Nat → Plt} {m s n : Nat} {o : List Nat} (h : ap P m s n = true) (ho : InOrd P n o) : mg P m s o = o.map fun k => (k, ab (P k).p) := by
  exact mg_apart (List.Pairwise.imp_of_mem (fun {a b} ha hb hab => ap_any h (ho.mem.1 hb) (ho.mem.1 ha) (fun e => by subst e; omega)) ho.sorted)
end Go.Proofs.Ytijfmaepoamkgab

/- A sure state stays a sure one, but for roundings: the reckoning, in rational numbers alone. -/
import Derived.Test.YtdolfkgnehiecaaHa
namespace Go.Proofs.Ytdolfkgnehiecaa
open Go.Fl

abbrev U : Rat := 1 / 4503599627370496
theorem sq_nonneg (x : Rat) : 0 ≤ x * x := by
  rcases Rat.le_total (a := 0) (b := x) with h | h
  · exact Rat.mul_nonneg h h
  · have := Rat.mul_nonneg (show 0 ≤ -x by grind) (show 0 ≤ -x by grind)
    grind
theorem prod_le {x y X Y : Rat} (h1 : x ≤ X) (h2 : -X ≤ x) (h3 : y ≤ Y) (h4 : -Y ≤ y) : x * y ≤ X * Y ∧ -(X * Y) ≤ x * y := by
  have a := Rat.mul_nonneg (show 0 ≤ X - x by grind) (show 0 ≤ Y + y by grind)
  have b := Rat.mul_nonneg (show 0 ≤ X + x by grind) (show 0 ≤ Y - y by grind)
  have c := Rat.mul_nonneg (show 0 ≤ X - x by grind) (show 0 ≤ Y - y by grind)
  have d := Rat.mul_nonneg (show 0 ≤ X + x by grind) (show 0 ≤ Y + y by grind)
  constructor <;> grind
theorem of_off {r x E : Rat} (h : Off r x E) : r ≤ x + E ∧ x ≤ r + E := h
/-- t |B|, t C, t t C, C + k: none is greater than m, but for a thousandth. -/
theorem l_T1 {T g m η : Rat} (h : Off g T (U / 2 * T + η)) (hg : g ≤ m) (hη : η ≤ U * m) (hm : 0 < m) : T ≤ 1001 / 1000 * m := by
  obtain ⟨h1, h2⟩ := h
  grind
theorem l_R {T g m : Rat} (h : Off g T (U * T)) (hg : g ≤ m) (hm : 0 < m) : T ≤ 1001 / 1000 * m := by
  obtain ⟨h1, h2⟩ := h
  grind
theorem l_tt {t C tt g m : Rat} (hC : 0 ≤ C) (h1 : Off tt (t * t) (U * (t * t))) (h2 : Off g (tt * C) (U * (tt * C))) (hg : g ≤ m) (hm : 0 < m) : C * t * t ≤ 1001 / 1000 * m := by
  have a := Rat.mul_le_mul_of_nonneg_right h1.2 hC
  obtain ⟨b1, b2⟩ := h2
  grind
/-- A product of a product. -/
theorem l_next {x y t r e : Rat} (ht : 0 ≤ t) (he2 : e ≤ 1 / 1000) (hy : 0 ≤ y) (h1 : Off x y (e * y)) (h2 : Off r (x * t) (U * (x * t))) : Off r (y * t) ((e + 2 * U) * (y * t)) := by
  have a := Rat.mul_le_mul_of_nonneg_right h1.1 ht
  have b := Rat.mul_le_mul_of_nonneg_right h1.2 ht
  have c := Rat.mul_nonneg hy ht
  have d := Rat.mul_le_mul_of_nonneg_right he2 c
  obtain ⟨g1, g2⟩ := h2
  constructor <;> grind
theorem l_add {C k g m : Rat} (h : Off g (C + k) (U / 2 * (C + k))) (hg : g ≤ m) (hm : 0 < m) : C + k ≤ 1001 / 1000 * m := by
  obtain ⟨h1, h2⟩ := h
  grind
/-- Not below nought: what is ahead, exactly. -/
theorem l_det {A B C t : Rat} (hC : 0 < C) (h : B * B ≤ A * C) : 0 ≤ A + 2 * (B * t) + C * t * t ∧ 0 ≤ A + B * t + C * t * t / 3 := by
  have a := sq_nonneg (B + C * t)
  have b := sq_nonneg (B + C * t / 2)
  have c := sq_nonneg (C * t)
  constructor
  · refine le_of_mul hC ?_
    grind
  · refine le_of_mul hC ?_
    grind
theorem l_id (A B C t s : Rat) : (A + 2 * (B * t) + C * t * t + s * t * t * t / 3) * (C + s * t) - (B + C * t + s * t * t / 2) * (B + C * t + s * t * t / 2) = (A * C - B * B) + s * t * (A + B * t + C * t * t / 3) + s * t * t * (s * t * t) / 12 := by grind
theorem l_sure {A B C t s : Rat} (hC : 0 < C) (ht : 0 ≤ t) (hs : 0 ≤ s) (h : B * B ≤ A * C) : (B + C * t + s * t * t / 2) * (B + C * t + s * t * t / 2) ≤ (A + 2 * (B * t) + C * t * t + s * t * t * t / 3) * (C + s * t) := by
  have a := l_id A B C t s
  have b := Rat.mul_nonneg (Rat.mul_nonneg hs ht) (l_det (t := t) hC h).2
  have c := sq_nonneg (s * t * t)
  grind
/-- B is not greater than both. -/
theorem l_B {A B C M : Rat} (hA : 0 ≤ A) (hC : 0 ≤ C) (h : B * B ≤ A * C) (hAM : A ≤ M) (hCM : C ≤ M) : B ≤ M ∧ -M ≤ B := by
  have hM : A * C ≤ M * M := (prod_le hAM (by grind) hCM (by grind)).1
  constructor
  · rcases Rat.le_total (a := B) (b := M) with q | q
    · exact q
    · by_cases e : B = M
      · rw [e]; exact Rat.le_refl
      · have h1 := Rat.mul_pos (show 0 < B - M by grind) (show 0 < B + M by grind)
        grind
  · rcases Rat.le_total (a := -M) (b := B) with q | q
    · exact q
    · by_cases e : B = -M
      · rw [e]; exact Rat.le_refl
      · have h1 := Rat.mul_pos (show 0 < -B - M by grind) (show 0 < -B + M by grind)
        grind
/-- The middle term. -/
theorem l_mid {s t : Rat} (hs : 0 ≤ s) (ht : 0 ≤ t) : 2 * (s * t * t) ≤ s * t + s * t * t * t := by
  have a := Rat.mul_nonneg (Rat.mul_nonneg hs ht) (sq_nonneg (1 - t))
  grind
theorem l_p1 {A p Bt T m η : Rat} (hA0 : 0 ≤ A) (hA : A ≤ m) (h : Off p Bt (U / 2 * T + η)) (b1 : Bt ≤ T) (b2 : -T ≤ Bt) (hT : T ≤ 1001 / 1000 * m) (hη : η ≤ U * m) (_hm : 0 < m) : (p ≤ 1002 / 1000 * m ∧ -(1002 / 1000 * m) ≤ p) ∧ Off p Bt (2 * U * m) ∧ A + p ≤ 8 * m ∧ -(8 * m) ≤ A + p := by
  obtain ⟨h1, h2⟩ := h
  refine ⟨⟨?_, ?_⟩, ⟨?_, ?_⟩, ?_, ?_⟩ <;> grind
theorem l_S1 {A p S m : Rat} (hA0 : 0 ≤ A) (hA : A ≤ m) (p1 : p ≤ 1002 / 1000 * m) (p2 : -(1002 / 1000 * m) ≤ p) (h : Off S (A + p) (U / 2 * (8 * m))) (_hm : 0 < m) : (S ≤ 3 * m ∧ -(3 * m) ≤ S) ∧ S + p ≤ 8 * m ∧ -(8 * m) ≤ S + p := by
  obtain ⟨h1, h2⟩ := h
  refine ⟨⟨?_, ?_⟩, ?_, ?_⟩ <;> grind
theorem l_S2 {R p S q m : Rat} (r1 : R ≤ 3 * m) (r2 : -(3 * m) ≤ R) (p1 : p ≤ 1002 / 1000 * m) (p2 : -(1002 / 1000 * m) ≤ p) (q0 : 0 ≤ q) (q1 : q ≤ 1010 / 1000 * m) (h : Off S (R + p) (U / 2 * (8 * m))) (hm : 0 < m) : (S ≤ 5 * m ∧ -(5 * m) ≤ S) ∧ S + q ≤ 8 * m ∧ -(8 * m) ≤ S + q := by
  obtain ⟨h1, h2⟩ := h
  refine ⟨⟨?_, ?_⟩, ?_, ?_⟩ <;> grind
theorem l_S3 {A p Bt S1 S2 S3 q D m : Rat} (hp : Off p Bt (2 * U * m)) (hq : Off q D (3 * U * D)) (hD : D ≤ 1001 / 1000 * m) (h1 : Off S1 (A + p) (U / 2 * (8 * m))) (h2 : Off S2 (S1 + p) (U / 2 * (8 * m))) (h3 : Off S3 (S2 + q) (U / 2 * (8 * m))) (hm : 0 < m) : Off S3 (A + 2 * Bt + D) (20 * U * m) := by
  obtain ⟨a1, a2⟩ := hp
  obtain ⟨b1, b2⟩ := hq
  obtain ⟨c1, c2⟩ := h1
  obtain ⟨d1, d2⟩ := h2
  obtain ⟨e1, e2⟩ := h3
  constructor <;> grind
theorem l_q {q D m : Rat} (hD0 : 0 ≤ D) (hq : Off q D (3 * U * D)) (hD : D ≤ 1001 / 1000 * m) : q ≤ 1010 / 1000 * m := by
  obtain ⟨b1, b2⟩ := hq
  grind
/-- The last term is not greater than m. -/
theorem l_third {S3 P th raw A' m : Rat} (hS : Off S3 P (20 * U * m)) (hP : 0 ≤ P) (h : Off raw (S3 + th) (U / 2 * (th + 8 * m))) (hr : raw ≤ A') (hA : A' ≤ m) (hm : 0 < m) : th ≤ 1001 / 1000 * m := by
  obtain ⟨a1, a2⟩ := hS
  obtain ⟨b1, b2⟩ := h
  grind
theorem l_quo {r q κ η m n : Rat} (hη : η ≤ U * m) (hη0 : 0 ≤ η) (hκ : κ = q / n) (h : Off r κ (U * κ + η)) (hr : r ≤ 1001 / 1000 * m) (_hm : 0 < m) : κ ≤ 1002 / 1000 * m := by
  obtain ⟨b1, b2⟩ := h
  grind
/-- The last term, as it is. -/
theorem l_thirdE {th q X η m : Rat} (hη : η ≤ U * m) (_hX : 0 ≤ X) (hq : Off q X (5 * U * X)) (h : Off th (q / 3) (U * (q / 3) + η)) (hk : q / 3 ≤ 1002 / 1000 * m) (hm : 0 < m) : Off th (X / 3) (8 * U * m) ∧ X / 3 ≤ 1003 / 1000 * m := by
  obtain ⟨a1, a2⟩ := hq
  obtain ⟨b1, b2⟩ := h
  have : X / 3 ≤ 1003 / 1000 * m := by grind
  refine ⟨⟨?_, ?_⟩, this⟩ <;> grind
theorem l_rawE {S3 P th X raw m : Rat} (hS : Off S3 P (20 * U * m)) (ht : Off th (X / 3) (8 * U * m)) (h : Off raw (S3 + th) (U / 2 * (th + 8 * m))) (h2 : th ≤ 1001 / 1000 * m) (hm : 0 < m) : Off raw (P + X / 3) (33 * U * m) := by
  obtain ⟨a1, a2⟩ := hS
  obtain ⟨b1, b2⟩ := h
  obtain ⟨c1, c2⟩ := ht
  constructor <;> grind
theorem l_CE {C k st C' m : Rat} (hC : 0 ≤ C) (hst : 0 ≤ st) (hk : Off k st (U * st)) (h : Off C' (C + k) (U / 2 * (C + k))) (hm : C + k ≤ 1001 / 1000 * m) (_h0 : 0 < m) : Off C' (C + st) (2 * U * m) ∧ st ≤ 1002 / 1000 * m ∧ C ≤ 1001 / 1000 * m := by
  obtain ⟨a1, a2⟩ := hk
  obtain ⟨b1, b2⟩ := h
  have h1 : st ≤ 1002 / 1000 * m := by grind
  refine ⟨⟨?_, ?_⟩, h1, ?_⟩ <;> grind
theorem l_half {hf kt Y η m : Rat} (hη : η ≤ U * m) (_hY : 0 ≤ Y) (hk : Off kt Y (3 * U * Y)) (h : Off hf (kt / 2) (U * (kt / 2) + η)) (hb : Y / 2 ≤ 1003 / 1000 * m) (hm : 0 < m) : Off hf (Y / 2) (6 * U * m) := by
  obtain ⟨a1, a2⟩ := hk
  obtain ⟨b1, b2⟩ := h
  constructor <;> grind
theorem l_B1 {B p Ct m : Rat} (b1 : B ≤ 1001 / 1000 * m) (b2 : -(1001 / 1000 * m) ≤ B) (hp : Off p Ct (U * Ct)) (h0 : 0 ≤ Ct) (hc : Ct ≤ 1001 / 1000 * m) (hm : 0 < m) : B + p ≤ 8 * m ∧ -(8 * m) ≤ B + p := by
  obtain ⟨a1, a2⟩ := hp
  constructor <;> grind
theorem l_B2 {B p Ct R hf Y m : Rat} (b1 : B ≤ 1001 / 1000 * m) (b2 : -(1001 / 1000 * m) ≤ B) (hp : Off p Ct (U * Ct)) (h0 : 0 ≤ Ct) (hc : Ct ≤ 1001 / 1000 * m) (hR : Off R (B + p) (U / 2 * (8 * m))) (hf1 : Off hf (Y / 2) (6 * U * m)) (hY0 : 0 ≤ Y) (hY : Y / 2 ≤ 1003 / 1000 * m) (hm : 0 < m) : R + hf ≤ 8 * m ∧ -(8 * m) ≤ R + hf := by
  obtain ⟨a1, a2⟩ := hp
  obtain ⟨c1, c2⟩ := hR
  obtain ⟨d1, d2⟩ := hf1
  constructor <;> grind
theorem l_BE {B p Ct R hf Y B' m : Rat} (hp : Off p Ct (U * Ct)) (hc : Ct ≤ 1001 / 1000 * m) (hR : Off R (B + p) (U / 2 * (8 * m))) (hf1 : Off hf (Y / 2) (6 * U * m)) (h : Off B' (R + hf) (U / 2 * (8 * m))) (hm : 0 < m) : Off B' (B + Ct + Y / 2) (16 * U * m) := by
  obtain ⟨a1, a2⟩ := hp
  obtain ⟨c1, c2⟩ := hR
  obtain ⟨d1, d2⟩ := hf1
  obtain ⟨e1, e2⟩ := h
  constructor <;> grind
/-- The end: with all that is off. -/
theorem l_end {a0 b0 c0 A' B' C' m : Rat} (hm : 0 < m) (hd : b0 * b0 ≤ a0 * c0) (ha0 : 0 ≤ a0) (hc0 : 0 ≤ c0) (hA0 : 0 ≤ A') (hC0 : 0 ≤ C') (hA : a0 ≤ A' + 33 * U * m) (hC : c0 ≤ C' + 2 * U * m) (hB : Off B' b0 (16 * U * m)) (b1 : b0 ≤ 4 * m) (b2 : -(4 * m) ≤ b0) (ha : a0 ≤ 2 * m) (hc : c0 ≤ 2 * m) : B' * B' ≤ A' * C' + 300 * U * (m * m) ∧ B' ≤ 5 * m ∧ -(5 * m) ≤ B' := by
  obtain ⟨e1, e2⟩ := hB
  have hmm := Rat.mul_pos hm hm
  have p1 := (prod_le (x := 2 * b0 + (B' - b0)) (y := B' - b0) (X := 9 * m) (Y := 16 * U * m) (by grind) (by grind) (by grind) (by grind)).1
  have p2 : a0 * c0 ≤ A' * C' + 33 * U * m * (a0 + c0) := by
    rcases Rat.le_total (a := a0) (b := 33 * U * m) with q | q
    · have h1 := Rat.mul_nonneg (show 0 ≤ 33 * U * m - a0 by grind) hc0
      have h2 := Rat.mul_nonneg hA0 hC0
      have h3 := Rat.mul_nonneg (show 0 ≤ 33 * U * m by grind) ha0
      grind
    · have h1 := Rat.mul_nonneg (show 0 ≤ A' - (a0 - 33 * U * m) by grind) hC0
      have h2 := Rat.mul_nonneg (show 0 ≤ a0 - 33 * U * m by grind) (show 0 ≤ C' - (c0 - 33 * U * m) by grind)
      have h3 := Rat.mul_nonneg (show 0 ≤ 33 * U * m by grind) (show 0 ≤ 33 * U * m by grind)
      grind
  have p3 := Rat.mul_nonneg (show 0 ≤ 33 * U * m by grind) (show 0 ≤ 4 * m - (a0 + c0) by grind)
  refine ⟨?_, by grind, by grind⟩
  grind
end Go.Proofs.Ytdolfkgnehiecaa

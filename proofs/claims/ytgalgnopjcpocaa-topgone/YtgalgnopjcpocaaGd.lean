/- TopMoved, as numbers: the rows of an echo, and what they are held against the pulse. -/
import Derived.Test.YtgalgnopjcpocaaGc
import Derived.Test.YtgalgnopjcpocaaMa
import Derived.Test.YtgalgnopjcpocaaZ
namespace Go.Proofs.Ytgalgnopjcpocaa
open Go.ChangeShapes Go.WideShapes Go.ChangeAt Go.RowKit Go.Fl Ieee

/-- A row's sample. -/
def lineV (A : C2) (P : Nat → C2) (c n g : Nat) : C2 := if c ≤ g ∧ g < c + n then addC (some 0, some 0) (mulC A (P (g - c))) else (some 0, some 0)
theorem echo_line {b : Bt} {t : Tg} {tm n N c : Nat} {P : Nat → C2} {A : C2} (hh : ∀ p, p < b.R → heardF (rowR b t tm p) (rowD b t tm p) = true) (hd : ∀ p, p < b.R → intD (rowD b t tm p) = c) (ha : ∀ p, p < b.R → rowA b t tm p = A) (hN : b.R * b.E = N) (hc : c + n ≤ b.E) :
    ∀ m, m ≤ b.R → ∀ p g, g < b.E → echoS b t tm n N P (fun _ => (some 0, some 0)) m (p * b.E + g) = if p < m then lineV A P c n g else (some 0, some 0)
  | 0, _, p, g, _ => by simp [echoS]
  | m + 1, hm, p, g, hg => by
    have ih := echo_line (P := P) hh hd ha hN hc m (by omega) p g hg
    rw [echoS]
    unfold rowE
    rw [if_pos (hh m (by omega)), hd m (by omega), ha m (by omega)]
    have h1 : (m + 1) * b.E ≤ b.R * b.E := Nat.mul_le_mul_right _ hm
    rw [Nat.succ_mul] at h1
    have e1 : min n (N - (m * b.E + c)) = n := by omega
    rw [e1]
    unfold hitF
    rcases Nat.lt_trichotomy p m with h | h | h
    · have h2 : (p + 1) * b.E ≤ m * b.E := Nat.mul_le_mul_right _ h
      rw [Nat.succ_mul] at h2
      rw [if_neg (by omega), ih, if_pos h, if_pos (by omega)]
    · subst h
      rw [ih, if_neg (show ¬ p < p by omega), if_pos (show p < p + 1 by omega)]
      unfold lineV
      by_cases h3 : c ≤ g ∧ g < c + n
      · rw [if_pos (by omega), if_pos h3, show p * b.E + g - (p * b.E + c) = g - c by omega]
      · rw [if_neg (by omega), if_neg h3]
    · have h2 : (m + 1) * b.E ≤ p * b.E := Nat.mul_le_mul_right _ h
      rw [Nat.succ_mul] at h2
      rw [if_neg (by omega), ih, if_neg (by omega), if_neg (by omega)]
/-- The samples of the echo of the ground. -/
theorem scene_line {c k n E R T q tm : Nat} {P : Nat → C2} (hc : c < 160) (ht : Fnt tm) (hm : ∀ p, p < R → p * E ≤ 1000) (h1 : 1 ≤ k) (hk : k ≤ 1048576) (hT : bin .quo (ab (floatOfInt .f64 (k : Int))) (ab 4697254411347427328) = some T) (hn : c + n ≤ E) {p g : Nat} (hpR : p < R) (hg : g < E) :
    sceneS ⟨4607182418800017408, 4602678819172646912, 4652007308841189376, E, R⟩ (fun _ => ⟨midN c, 0, 4607182418800017408, T, q⟩) tm n (R * E) P 1 (p * E + g) = lineV (AK k) P c n g := by
  have M := mid_of hc
  have := echo_line (b := ⟨4607182418800017408, 4602678819172646912, 4652007308841189376, E, R⟩) (t := ⟨midN c, 0, 4607182418800017408, T, q⟩) (tm := tm) (n := n) (N := R * E) (c := c) (P := P) (A := AK k)
    (fun p h => by rw [row_r hc ht (hm p h), row_d hc ht (hm p h)]; exact M.heard) (fun p h => by rw [row_d hc ht (hm p h)]; exact M.int) (fun p h => row_a hc ht (hm p h) h1 hk hT) rfl hn R (Nat.le_refl _) p g hg
  rw [if_pos hpR] at this
  exact this
theorem line_move (A : C2) (P : Nat → C2) (c n g by_ : Nat) : lineV A P (c + by_) n (g + by_) = lineV A P c n g := by
  unfold lineV
  by_cases h : c ≤ g ∧ g < c + n
  · rw [if_pos (by omega), if_pos h, show g + by_ - (c + by_) = g - c by omega]
  · rw [if_neg (by omega), if_neg h]
theorem line_low (A : C2) (P : Nat → C2) {c n g : Nat} (h : g < c) : lineV A P c n g = (some 0, some 0) := by
  unfold lineV; rw [if_neg (by omega)]
theorem line_high (A : C2) (P : Nat → C2) {c n g : Nat} (h : c + n ≤ g) : lineV A P c n g = (some 0, some 0) := by
  unfold lineV; rw [if_neg (by omega)]
/-- Both parts are at most so great. -/
def BC2 (p : C2) (K : Nat) : Prop := BN p.1 K ∧ BN p.2 K
theorem bn_zero : BN (some 0) 0 := ⟨0, rfl, fzero.1, by rw [fzero.2]; exact Rat.le_refl, by rw [fzero.2]; decide +kernel⟩
theorem good_bc {a b : Nat} (h : Good a b) : BC2 (some a, some b) 2 := by
  have sq : ∀ {u v : Rat}, u * u + v * v ≤ 1 + 11 * u53 → u ≤ 2 ∧ -2 ≤ u := by
    intro u v h
    have hu : u53 ≤ 1 / 1000 := by decide +kernel
    have hv : 0 ≤ v * v := by
      rcases (Rat.le_total : (0 : Rat) ≤ v ∨ v ≤ 0) with h0 | h0
      · exact Rat.mul_nonneg h0 h0
      · have := Rat.mul_nonneg (show (0 : Rat) ≤ -v by grind) (show (0 : Rat) ≤ -v by grind)
        grind
    constructor
    · rcases (Rat.le_total : u ≤ 2 ∨ (2 : Rat) ≤ u) with h0 | h0
      · exact h0
      · exfalso
        have := Rat.mul_le_mul_of_nonneg_right h0 (show (0 : Rat) ≤ u by grind)
        grind
    · rcases (Rat.le_total : -2 ≤ u ∨ u ≤ (-2 : Rat)) with h0 | h0
      · exact h0
      · exfalso
        have := Rat.mul_le_mul_of_nonneg_right (show (2 : Rat) ≤ -u by grind) (show (0 : Rat) ≤ -u by grind)
        grind
  obtain ⟨a1, a2⟩ := sq (u := val a) (v := val b) h.near.1
  obtain ⟨b1, b2⟩ := sq (u := val b) (v := val a) (by have := h.near.1; grind)
  exact ⟨⟨a, rfl, h.fc, a1, a2⟩, ⟨b, rfl, h.fs, b1, b2⟩⟩
theorem BC2.mul {p q : C2} {K L M : Nat} (hp : BC2 p K) (hq : BC2 q L) (hM : 2 * (K * L) ≤ M) (h : M < 2 ^ 53) : BC2 (mulC p q) M :=
  ⟨(hp.1.mul hq.1 (Nat.le_refl _) (by omega)).sub (hp.2.mul hq.2 (Nat.le_refl _) (by omega)) (by omega) h,
   (hp.1.mul hq.2 (Nat.le_refl _) (by omega)).add (hp.2.mul hq.1 (Nat.le_refl _) (by omega)) (by omega) h⟩
theorem BC2.conj {p : C2} {K : Nat} (hp : BC2 p K) : BC2 (p.1, p.2.map neg) K := ⟨hp.1, hp.2.neg⟩
theorem line_bc {A : C2} {P : Nat → C2} {c n g : Nat} (hA : BC2 A 2) (hP : ∀ i, i < n → BC2 (P i) 2) : BC2 (lineV A P c n g) 8 := by
  unfold lineV
  split
  · have := hA.mul (hP (g - c) (by omega)) (M := 8) (by omega) (by omega)
    exact ⟨bn_zero.add this.1 (by omega) (by omega), bn_zero.add this.2 (by omega) (by omega)⟩
  · exact ⟨bn_zero.le (by omega), bn_zero.le (by omega)⟩
/-- A finite sum, with noughts behind it. -/
theorem sum_bn {G : Nat → Option Nat} {K : Nat} : ∀ {m : Nat}, (∀ i, i < m → BN (G i) K) → m * K + K < 2 ^ 53 → BN (sumN G m) (m * K + K)
  | 0, _, h => (bn_zero).le (by omega)
  | 1, h, hK => (h 0 (by omega)).le (by omega)
  | m + 2, h, hK => by
    have e : (m + 2) * K = (m + 1) * K + K := Nat.succ_mul (m + 1) K
    rw [sumN_step]
    exact (sum_bn (m := m + 1) (fun i hi => h i (by omega)) (by omega)).add (h (m + 1) (by omega)) (by omega) hK
theorem bn_val {a : Option Nat} (h : BN a 0) : ∃ x, a = some x ∧ Fnt x ∧ val x = 0 := by
  obtain ⟨x, rfl, f, h1, h2⟩ := h
  have e : ((0 : Nat) : Rat) = 0 := rfl
  rw [e] at h1 h2
  exact ⟨x, rfl, f, by grind⟩
theorem sum_tail {G : Nat → Option Nat} {K m : Nat} : ∀ {d : Nat}, (∀ i, i < m + d → BN (G i) K) → (∀ i, m ≤ i → i < m + d → BN (G i) 0) → (m + d) * K + K < 2 ^ 53 → ∃ x y, sumN G m = some x ∧ sumN G (m + d) = some y ∧ Fnt x ∧ Fnt y ∧ val x = val y
  | 0, h, _, hK => by
    obtain ⟨x, e, f, _⟩ := sum_bn h hK
    exact ⟨x, x, e, e, f, f, rfl⟩
  | d + 1, h, h0, hK => by
    have e : (m + (d + 1)) * K = (m + d) * K + K := by rw [show m + (d + 1) = (m + d) + 1 by omega, Nat.succ_mul]
    obtain ⟨x, y, e1, e2, f1, f2, v⟩ := sum_tail (d := d) (fun i hi => h i (by omega)) (fun i h1 h2 => h0 i h1 (by omega)) (by omega)
    obtain ⟨z, e3, f3, v3⟩ := bn_val (h0 (m + d) (by omega) (by omega))
    obtain ⟨k, hk⟩ : ∃ k, k = m + d := ⟨_, rfl⟩
    rw [show m + (d + 1) = k + 1 by omega]
    rw [← hk] at e2 e3
    cases k with
    | zero =>
      refine ⟨x, z, e1, e3, f1, f3, ?_⟩
      have : y = 0 := by
        have q : sumN G 0 = some 0 := by show ab 0 = some 0; decide +kernel
        rw [q] at e2; exact (Option.some.inj e2).symm
      rw [v, this, v3, val0]
    | succ k =>
      rw [sumN_step, e2, e3]
      obtain ⟨r, hr⟩ := bin_some_add f2 f3
      have hs := sum_bn (G := G) (m := k + 1) (K := K) (fun i hi => h i (by omega)) (by rw [hk]; omega)
      obtain ⟨y', q, _, y1, y2⟩ := hs
      rw [e2] at q
      cases q
      have hb := big_nat (K := (k + 1) * K + K) (by rw [hk]; omega)
      have e4 : val y + val z = val y := by rw [v3]; grind
      obtain ⟨fr, _⟩ := add_near f2 f3 hr (B := (((k + 1) * K + K : Nat) : Rat)) (by rw [e4]; exact y1) (by rw [e4]; exact y2) hb
      have mm := add_mono f2 f3 hr (by rw [e4]; grind) (by rw [e4]; grind) (z := y)
      rw [e4] at mm
      exact ⟨x, r, e1, hr, f1, fr, by rw [v]; exact Rat.le_antisymm (mm.2 Rat.le_refl) (mm.1 Rat.le_refl)⟩
theorem eqF_of {x y : Nat} (hx : Fnt x) (hy : Fnt y) (h : val x = val y) : eqF (some x) (some y) = true := by
  rw [← Fnt.ab hx, ← Fnt.ab hy, eqF_val hx hy]; simp [h]
/-- THE MATCH MOVES WITH THE ECHO. -/
theorem held_moved {f1 f2 fp : Nat → Nat × Nat} {A : C2} {P : Nat → C2} {c by_ n E g : Nat} (hA : BC2 A 2) (hP : ∀ i, i < n → BC2 (P i) 2) (h1 : ∀ i, i < E → ab2 (f1 i) = lineV A P c n i) (h2 : ∀ i, i < E → ab2 (f2 i) = lineV A P (c + by_) n i) (hp : ∀ i, i < n → ab2 (fp i) = P i) (hE : c + by_ + n ≤ E) (hn : n ≤ 4096) (hg : g + by_ < E) :
    eqF (heldF f2 E fp n (g + by_)).1 (heldF f1 E fp n g).1 = true ∧ eqF (heldF f2 E fp n (g + by_)).2 (heldF f1 E fp n g).2 = true := by
  have key : ∀ i, i < n → g + i < E → BC2 (mulC (ab2 (f1 (i + g))) ((ab2 (fp i)).1, (ab2 (fp i)).2.map neg)) 32 ∧ (c + n ≤ g + i → BC2 (mulC (ab2 (f1 (i + g))) ((ab2 (fp i)).1, (ab2 (fp i)).2.map neg)) 0) := by
    intro i hi hgi
    have q : BC2 (P i) 2 := hP i hi
    rw [h1 (i + g) (by omega), hp i hi]
    refine ⟨(line_bc hA hP).mul q.conj (by omega) (by omega), fun hc => ?_⟩
    rw [line_high A P (show c + n ≤ i + g by omega)]
    exact (show BC2 (some 0, some 0) 0 from ⟨bn_zero, bn_zero⟩).mul q.conj (by omega) (by omega)
  have same : ∀ i, i < n → g + by_ + i < E → ab2 (f2 (i + (g + by_))) = ab2 (f1 (i + g)) := by
    intro i hi hgi
    rw [h1 (i + g) (by omega), h2 (i + (g + by_)) (by omega), ← line_move A P c n (i + g) by_, show i + (g + by_) = i + g + by_ by omega]
  obtain ⟨d, hd⟩ : ∃ d, min (E - g) n = min (E - (g + by_)) n + d := ⟨min (E - g) n - min (E - (g + by_)) n, by omega⟩
  have e1 : sumN (dotR (fun i => f2 (i + (g + by_))) fp) (min (E - (g + by_)) n) = sumN (dotR (fun i => f1 (i + g)) fp) (min (E - (g + by_)) n) := by
    refine sumN_congr fun i hi => ?_
    have := same i (by omega) (by omega)
    unfold dotR
    have a := congrArg Prod.fst this
    have b := congrArg Prod.snd this
    simp only [ab2] at a b
    rw [a, b]
  have e2 : sumN (dotI (fun i => f2 (i + (g + by_))) fp) (min (E - (g + by_)) n) = sumN (dotI (fun i => f1 (i + g)) fp) (min (E - (g + by_)) n) := by
    refine sumN_congr fun i hi => ?_
    have := same i (by omega) (by omega)
    unfold dotI
    have a := congrArg Prod.fst this
    have b := congrArg Prod.snd this
    simp only [ab2] at a b
    rw [a, b]
  unfold heldF
  simp only []
  rw [e1, e2, hd]
  have hK : (min (E - (g + by_)) n + d) * 32 + 32 < 2 ^ 53 := by omega
  constructor
  · obtain ⟨x, y, q1, q2, q3, q4, q5⟩ := sum_tail (G := dotR (fun i => f1 (i + g)) fp) (m := min (E - (g + by_)) n) (d := d) (K := 32) (fun i hi => (key i (by omega) (by omega)).1.1) (fun i h3 h4 => ((key i (by omega) (by omega)).2 (by omega)).1) hK
    rw [q1, q2]
    exact eqF_of q3 q4 q5
  · obtain ⟨x, y, q1, q2, q3, q4, q5⟩ := sum_tail (G := dotI (fun i => f1 (i + g)) fp) (m := min (E - (g + by_)) n) (d := d) (K := 32) (fun i hi => (key i (by omega) (by omega)).1.2) (fun i h3 h4 => ((key i (by omega) (by omega)).2 (by omega)).2) hK
    rw [q1, q2]
    exact eqF_of q3 q4 q5
theorem add_v {x y z : Nat} (fx : Fnt x) (fy : Fnt y) (h : val x + val y = val z) (h1 : val z ≤ 2) (h2 : -2 ≤ val z) : ∃ r, bin .add (some x) (some y) = some r ∧ Fnt r ∧ val r = val z := by
  obtain ⟨r, hr⟩ := bin_some_add fx fy
  obtain ⟨g1, g2⟩ := big2 h1 h2
  obtain ⟨fr, _⟩ := add_near fx fy hr (B := 2) (by rw [h]; exact h1) (by rw [h]; exact h2) (big2 (v := 2) (by grind) (by grind)).1
  have m := add_mono fx fy hr (by rw [h]; exact g1) (by rw [h]; exact g2) (z := z)
  rw [h] at m
  exact ⟨r, hr, fr, Rat.le_antisymm (m.1 Rat.le_refl) (m.2 Rat.le_refl)⟩
theorem sub_v {x y z : Nat} (fx : Fnt x) (fy : Fnt y) (h : val x - val y = val z) (h1 : val z ≤ 2) (h2 : -2 ≤ val z) : ∃ r, bin .sub (some x) (some y) = some r ∧ Fnt r ∧ val r = val z := by
  obtain ⟨r, hr⟩ := bin_some_sub fx fy
  obtain ⟨g1, g2⟩ := big2 h1 h2
  obtain ⟨fr, _⟩ := sub_near fx fy hr (B := 2) (by rw [h]; exact h1) (by rw [h]; exact h2) (big2 (v := 2) (by grind) (by grind)).1
  have m := sub_mono fx fy hr (by rw [h]; exact g1) (by rw [h]; exact g2) (z := z)
  rw [h] at m
  exact ⟨r, hr, fr, Rat.le_antisymm (m.1 Rat.le_refl) (m.2 Rat.le_refl)⟩
/-- Where the echo begins it is not nought. -/
theorem line_first {A : C2} {P : Nat → C2} {a b c n : Nat} (hA : A = (some a, some b)) (hg : Good a b) (hP : P 0 = (some 4607182418800017408, some 0)) (hn : 0 < n) :
    (eqF (lineV A P c n c).1 (some 0) && eqF (lineV A P c n c).2 (some 0)) = false := by
  have q : BC2 (P 0) 2 := by rw [hP]; exact good_bc good_plus
  unfold lineV
  rw [if_pos (by omega), Nat.sub_self, hP, hA]
  have bg := good_bc hg
  have one : ∀ {y : Nat}, BN (some y) 2 → ∃ r, bin .mul (some y) (some 4607182418800017408) = some r ∧ Fnt r ∧ val r = val y := by
    intro y hy
    obtain ⟨y', e, fy, y1, y2⟩ := hy
    cases e
    have e2 : ((2 : Nat) : Rat) = 2 := rfl
    rw [e2] at y1 y2
    obtain ⟨r, hr⟩ := bin_some_mul fy fone.1
    have e : val y * val 4607182418800017408 = val y := by rw [fone.2]; grind
    obtain ⟨g1, g2⟩ := big2 y1 y2
    obtain ⟨fr, _⟩ := mul_near fy fone.1 hr (B := 2) (by rw [e]; exact y1) (by rw [e]; exact y2) (big2 (v := 2) (by grind) (by grind)).1
    have m := mul_mono fy fone.1 hr (by rw [e]; exact g1) (by rw [e]; exact g2) (z := y)
    rw [e] at m
    exact ⟨r, hr, fr, Rat.le_antisymm (m.1 Rat.le_refl) (m.2 Rat.le_refl)⟩
  have nul : ∀ {y : Nat}, BN (some y) 2 → ∃ r, bin .mul (some y) (some 0) = some r ∧ Fnt r ∧ val r = 0 := fun hy => bn_val (hy.mul bn_zero (by omega) (by omega))
  obtain ⟨p1, e1, f1, v1⟩ := one bg.1
  obtain ⟨p2, e2, f2, v2⟩ := nul bg.2
  obtain ⟨p3, e3, f3, v3⟩ := nul bg.1
  obtain ⟨p4, e4, f4, v4⟩ := one bg.2
  obtain ⟨a', ea, _, a1, a2⟩ := bg.1
  cases ea
  obtain ⟨b', eb, _, b1, b2⟩ := bg.2
  cases eb
  have e22 : ((2 : Nat) : Rat) = 2 := rfl
  rw [e22] at a1 a2 b1 b2
  obtain ⟨r1, k1, g1, w1⟩ := sub_v f1 f2 (z := a) (by rw [v1, v2]; grind) a1 a2
  obtain ⟨r2, k2, g2, w2⟩ := add_v f3 f4 (z := b) (by rw [v3, v4]; grind) b1 b2
  obtain ⟨s1, l1, m1, u1⟩ := add_v fzero.1 g1 (z := a) (by rw [fzero.2, w1]; grind) a1 a2
  obtain ⟨s2, l2, m2, u2⟩ := add_v fzero.1 g2 (z := b) (by rw [fzero.2, w2]; grind) b1 b2
  have hv : addC (some 0, some 0) (mulC (some a, some b) (some 4607182418800017408, some 0)) = (some s1, some s2) := by
    unfold addC mulC mulR mulI
    simp only [e1, e2, e3, e4, k1, k2, l1, l2]
  rw [hv]
  simp only []
  have z0 : (some 0 : Option Nat) = ab 0 := by decide +kernel
  rw [z0, ← Fnt.ab m1, ← Fnt.ab m2, eqF_val m1 fzero.1, eqF_val m2 fzero.1, u1, u2, fzero.2]
  rcases Decidable.em (val a = 0) with h | h
  · rcases Decidable.em (val b = 0) with h' | h'
    · exfalso
      have := hg.near.2
      rw [h, h'] at this
      have hu : u53 ≤ 1 / 1000 := by decide +kernel
      grind
    · simp [h']
  · simp [h]
/-- The codes: how long, and what comes first. -/
def codeAll (n : Nat) : Bool := codeE n == 0 && decide (1 ≤ (codeL n).length) && decide ((codeL n).length ≤ 160) && (codeL n)[0]? == some (some 4607182418800017408, some 0)
theorem code_all : ∀ n, n < 13 → codeAll n = true := by decide +kernel
theorem code_is {n : Nat} (h : n < 13) : codeE n = 0 ∧ 1 ≤ (codeL n).length ∧ (codeL n).length ≤ 160 ∧ (codeL n)[0]? = some (some 4607182418800017408, some 0) := by
  have := code_all n h
  simp only [codeAll, Bool.and_eq_true, beq_iff_eq, decide_eq_true_eq] at this
  exact ⟨this.1.1.1, this.1.1.2, this.1.2, this.2⟩
end Go.Proofs.Ytgalgnopjcpocaa

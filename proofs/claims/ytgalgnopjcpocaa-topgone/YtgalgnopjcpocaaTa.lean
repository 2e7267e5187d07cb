/- TopGone, as numbers: what stands still leaves the same bits in each row. -/
import Derived.Test.YtgalgnopjcpocaaGe
import Derived.Test.YtgalgnopjcpocaaDa
import Derived.Deep.AppendLies
namespace Go.Proofs.Ytgalgnopjcpocaa
open Go.ChangeShapes Go.WideShapes Go.ChangeAt Go.RowKit Go.Fl Ieee

/-- Finite, and at most a power of two. -/
def PB (o : Option Nat) (k : Int) : Prop := ∃ x, o = some x ∧ Fnt x ∧ val x ≤ pw k ∧ -pw k ≤ val x
theorem pow_rep {k : Int} (h1 : -1000 ≤ k) (h2 : k ≤ 1000) : ∃ y, Fnt y ∧ val y = pw k := by
  have hb : ((1 : Nat) : Rat) * pw k ≤ pw 1000 := by
    have a := pw_mono h2
    have e : ((1 : Nat) : Rat) = 1 := rfl
    rw [e]; grind
  obtain ⟨f, v⟩ := exact_write false (K := 1) (e := k) (by omega) (by omega) hb
  refine ⟨_, f, ?_⟩
  rw [v, dv_false]
  have e : ((1 : Nat) : Rat) = 1 := rfl
  rw [e]; grind
theorem PB.mono {o : Option Nat} {k l : Int} (h : PB o k) (hk : k ≤ l) : PB o l := by
  obtain ⟨x, e, f, h1, h2⟩ := h
  have := pw_mono hk
  exact ⟨x, e, f, by grind, by grind⟩
theorem PB.mul {a b : Option Nat} {k l : Int} (ha : PB a k) (hb : PB b l) (h1 : -1000 ≤ k + l) (h2 : k + l ≤ 1000) : PB (bin .mul a b) (k + l) := by
  obtain ⟨x, rfl, fx, x1, x2⟩ := ha
  obtain ⟨y, rfl, fy, y1, y2⟩ := hb
  obtain ⟨r, hr⟩ := bin_some_mul fx fy
  obtain ⟨m1, m2⟩ := mul_bd x1 x2 y1 y2
  rw [← pw_add] at m1 m2
  have hp := pw_mono h2
  obtain ⟨z, fz, vz⟩ := pow_rep h1 h2
  obtain ⟨fr, _⟩ := mul_near fx fy hr (B := pw (k + l)) m1 m2 hp
  have k1 := (mul_mono fx fy hr (by grind) (by grind) (z := z)).1 (by rw [vz]; exact m1)
  have k2 := (mul_mono fx fy hr (by grind) (by grind) (z := neg z)).2 (by rw [vneg, vz]; exact m2)
  rw [vz] at k1
  rw [vneg, vz] at k2
  exact ⟨r, hr, fr, k1, k2⟩
theorem pw_two (k : Int) : pw (k + 1) = 2 * pw k := by
  rw [pw_add]
  have : pw 1 = 2 := by decide +kernel
  rw [this]; grind
theorem PB.add {a b : Option Nat} {k : Int} (ha : PB a k) (hb : PB b k) (h1 : -1000 ≤ k) (h2 : k + 1 ≤ 1000) : PB (bin .add a b) (k + 1) := by
  obtain ⟨x, rfl, fx, x1, x2⟩ := ha
  obtain ⟨y, rfl, fy, y1, y2⟩ := hb
  obtain ⟨r, hr⟩ := bin_some_add fx fy
  have e := pw_two k
  have hp := pw_mono h2
  obtain ⟨z, fz, vz⟩ := pow_rep (k := k + 1) (by omega) h2
  obtain ⟨fr, _⟩ := add_near fx fy hr (B := pw (k + 1)) (by grind) (by grind) hp
  have k1 := (add_mono fx fy hr (by grind) (by grind) (z := z)).1 (by rw [vz]; grind)
  have k2 := (add_mono fx fy hr (by grind) (by grind) (z := neg z)).2 (by rw [vneg, vz]; grind)
  rw [vz] at k1
  rw [vneg, vz] at k2
  exact ⟨r, hr, fr, k1, k2⟩
theorem PB.sub {a b : Option Nat} {k : Int} (ha : PB a k) (hb : PB b k) (h1 : -1000 ≤ k) (h2 : k + 1 ≤ 1000) : PB (bin .sub a b) (k + 1) := by
  obtain ⟨x, rfl, fx, x1, x2⟩ := ha
  obtain ⟨y, rfl, fy, y1, y2⟩ := hb
  obtain ⟨r, hr⟩ := bin_some_sub fx fy
  have e := pw_two k
  have hp := pw_mono h2
  obtain ⟨z, fz, vz⟩ := pow_rep (k := k + 1) (by omega) h2
  obtain ⟨fr, _⟩ := sub_near fx fy hr (B := pw (k + 1)) (by grind) (by grind) hp
  have k1 := (sub_mono fx fy hr (by grind) (by grind) (z := z)).1 (by rw [vz]; grind)
  have k2 := (sub_mono fx fy hr (by grind) (by grind) (z := neg z)).2 (by rw [vneg, vz]; grind)
  rw [vz] at k1
  rw [vneg, vz] at k2
  exact ⟨r, hr, fr, k1, k2⟩
/-- Both parts. -/
def P2 (p : C2) (k : Int) : Prop := PB p.1 k ∧ PB p.2 k
theorem P2.mono {p : C2} {k l : Int} (h : P2 p k) (hk : k ≤ l) : P2 p l := ⟨h.1.mono hk, h.2.mono hk⟩
theorem P2.mul {p q : C2} {k l : Int} (hp : P2 p k) (hq : P2 q l) (h1 : -1000 ≤ k + l) (h2 : k + l + 1 ≤ 1000) : P2 (mulC p q) (k + l + 1) :=
  ⟨(hp.1.mul hq.1 h1 (by omega)).sub (hp.2.mul hq.2 h1 (by omega)) h1 h2, (hp.1.mul hq.2 h1 (by omega)).add (hp.2.mul hq.1 h1 (by omega)) h1 h2⟩
theorem P2.add {p q : C2} {k : Int} (hp : P2 p k) (hq : P2 q k) (h1 : -1000 ≤ k) (h2 : k + 1 ≤ 1000) : P2 (addC p q) (k + 1) := ⟨hp.1.add hq.1 h1 h2, hp.2.add hq.2 h1 h2⟩
theorem bc_p2 {p : C2} (h : BC2 p 2) : P2 p 1 := by
  have e : pw 1 = 2 := by decide +kernel
  have e2 : ((2 : Nat) : Rat) = 2 := rfl
  obtain ⟨⟨x, e1, f1, a1, a2⟩, ⟨y, e3, f3, b1, b2⟩⟩ := h
  rw [e2] at a1 a2 b1 b2
  exact ⟨⟨x, e1, f1, by rw [e]; exact a1, by rw [e]; exact a2⟩, ⟨y, e3, f3, by rw [e]; exact b1, by rw [e]; exact b2⟩⟩
theorem zero_p2 (k : Int) : P2 (some 0, some 0) k := by
  have := pw_pos k
  exact ⟨⟨0, rfl, fzero.1, by rw [fzero.2]; grind, by rw [fzero.2]; grind⟩, ⟨0, rfl, fzero.1, by rw [fzero.2]; grind, by rw [fzero.2]; grind⟩⟩
/-- One's own difference is the nought of the sign +. -/
theorem sub_self {x : Nat} (h : Fnt x) : bin .sub (some x) (some x) = some 0 := by
  obtain ⟨s, m, e, hr⟩ := fin_read h
  show double.sub x x = some 0
  unfold Format.sub
  rw [hr]
  have hs : ∀ k : Nat, signed s m k + signed (!s) m k = 0 := by
    intro k
    unfold signed
    cases s <;> simp <;> omega
  show Option.map double.write (some (Datum.number (if signed s m (e - min e e).toNat + signed (!s) m (e - min e e).toNat = 0 then s && !s else decide (signed s m (e - min e e).toNat + signed (!s) m (e - min e e).toNat < 0)) (signed s m (e - min e e).toNat + signed (!s) m (e - min e e).toNat).natAbs (min e e))) = some 0
  rw [hs, if_pos rfl]
  have e1 : (s && !s) = false := by cases s <;> rfl
  rw [e1]
  show some (double.nearest _ _ _) = _
  unfold Format.nearest
  rw [if_pos (show Int.natAbs 0 = 0 from rfl)]; rfl
theorem difC_self {p : C2} {k : Int} (h : P2 p k) : difC p p = (some 0, some 0) := by
  obtain ⟨⟨x, e1, f1, _⟩, ⟨y, e3, f3, _⟩⟩ := h
  unfold difC
  rw [e1, e3, sub_self f1, sub_self f3]
/-- THE SAME ROWS ARE CANCELLED. -/
theorem dk_gone {V : Nat → C2} {g : Nat} {k : Int} (h : P2 (V g) k) : ∀ (o a : Nat), o ≤ a → 1 ≤ o → dk (fun _ g => V g) o a g = (some 0, some 0)
  | 0, a, _, h1 => by omega
  | o + 1, a, ha, _ => by
    rw [dk, if_pos (by omega)]
    rcases Nat.eq_zero_or_pos o with rfl | hp
    · exact difC_self h
    · rw [dk_gone h o a (by omega) hp, dk_gone h o (a - 1) (by omega) hp]
      exact difC_self (zero_p2 0)
/-- A pulse laid over what is there. -/
def lineW (A : C2) (P : Nat → C2) (c n : Nat) (v : C2) (g : Nat) : C2 := if c ≤ g ∧ g < c + n then addC v (mulC A (P (g - c))) else v
/-- An echo of what does not go, over rows that are alike. -/
theorem echo_over {b : Bt} {t : Tg} {tm n N c : Nat} {P : Nat → C2} {A : C2} {S : Nat → C2} {V : Nat → C2} (hS : ∀ p g, p < b.R → g < b.E → S (p * b.E + g) = V g) (hh : ∀ p, p < b.R → heardF (rowR b t tm p) (rowD b t tm p) = true) (hd : ∀ p, p < b.R → intD (rowD b t tm p) = c) (ha : ∀ p, p < b.R → rowA b t tm p = A) (hN : b.R * b.E = N) (hc : c + n ≤ b.E) :
    ∀ m, m ≤ b.R → ∀ p g, p < b.R → g < b.E → echoS b t tm n N P S m (p * b.E + g) = if p < m then lineW A P c n (V g) g else V g
  | 0, _, p, g, hp, hg => by simp only [echoS]; rw [hS p g hp hg, if_neg (by omega)]
  | m + 1, hm, p, g, hp, hg => by
    have ih := echo_over (P := P) hS hh hd ha hN hc m (by omega) p g hp hg
    rw [echoS]
    unfold rowE
    rw [if_pos (hh m (by omega)), hd m (by omega), ha m (by omega)]
    have h1 : (m + 1) * b.E ≤ b.R * b.E := Nat.mul_le_mul_right _ hm
    rw [Nat.succ_mul] at h1
    have e1 : min n (N - (m * b.E + c)) = n := by omega
    rw [e1]
    unfold hitF
    rcases Nat.lt_trichotomy p m with h | h | h
    · have h2 : (p + 1) * b.E ≤ m * b.E := Nat.mul_le_mul_right _ h
      rw [Nat.succ_mul] at h2
      rw [if_neg (by omega), ih, if_pos h, if_pos (by omega)]
    · subst h
      rw [ih, if_neg (show ¬ p < p by omega), if_pos (show p < p + 1 by omega)]
      unfold lineW
      by_cases h3 : c ≤ g ∧ g < c + n
      · rw [if_pos (by omega), if_pos h3, show p * b.E + g - (p * b.E + c) = g - c by omega]
      · rw [if_neg (by omega), if_neg h3]
    · have h2 : (m + 1) * b.E ≤ p * b.E := Nat.mul_le_mul_right _ h
      rw [Nat.succ_mul] at h2
      rw [if_neg (by omega), ih, if_neg (by omega), if_neg (by omega)]
/-- All of them, one behind the other. -/
def pile (A : Nat → C2) (c : Nat → Nat) (P : Nat → C2) (n : Nat) : Nat → Nat → C2
  | 0, _ => (some 0, some 0)
  | T + 1, g => lineW (A T) P (c T) n (pile A c P n T g) g
theorem scene_pile {b : Bt} {f : Nat → Tg} {tm n N : Nat} {P : Nat → C2} {A : Nat → C2} {c : Nat → Nat} (hN : b.R * b.E = N) : ∀ (T : Nat), (∀ i, i < T → (∀ p, p < b.R → heardF (rowR b (f i) tm p) (rowD b (f i) tm p) = true ∧ intD (rowD b (f i) tm p) = c i ∧ rowA b (f i) tm p = A i) ∧ c i + n ≤ b.E) → ∀ p g, p < b.R → g < b.E → sceneS b f tm n N P T (p * b.E + g) = pile A c P n T g
  | 0, _, p, g, _, _ => rfl
  | T + 1, h, p, g, hp, hg => by
    rw [sceneS, echo_over (V := pile A c P n T) (c := c T) (A := A T) (fun p g hp hg => scene_pile hN T (fun i hi => h i (by omega)) p g hp hg) (fun p hp => ((h T (by omega)).1 p hp).1) (fun p hp => ((h T (by omega)).1 p hp).2.1) (fun p hp => ((h T (by omega)).1 p hp).2.2) hN (h T (by omega)).2 b.R (Nat.le_refl _) p g hp hg, if_pos hp]
    rfl
theorem pile_p2 {A : Nat → C2} {c : Nat → Nat} {P : Nat → C2} {n g : Nat} (hP : ∀ i, i < n → P2 (P i) 1) : ∀ (T : Nat), T ≤ 12 → (∀ i, i < T → P2 (A i) 340) → P2 (pile A c P n T g) (350 + T)
  | 0, _, _ => zero_p2 _
  | T + 1, hT, hA => by
    have ih := pile_p2 (A := A) (c := c) (g := g) hP T (by omega) (fun i hi => hA i (by omega))
    rw [pile]
    unfold lineW
    split
    · rename_i hg
      have m := (hA T (by omega)).mul (hP (g - c T) (by omega)) (by omega) (by omega)
      have := ih.add (m.mono (show (340 : Int) + 1 + 1 ≤ 350 + (T : Int) by omega)) (by omega) (by omega)
      exact this.mono (by omega)
    · exact ih.mono (by omega)
end Go.Proofs.Ytgalgnopjcpocaa
/- TopGone, as numbers: where a target stands, and how strong its echo is. -/
namespace Go.Proofs.Ytgalgnopjcpocaa
open Go.ChangeShapes Go.WideShapes Go.ChangeAt Go.RowKit Go.Fl Ieee

theorem f1000 : Fnt 4652007308841189376 ∧ val 4652007308841189376 = 1000 := ⟨by unfold Fnt; decide, by decide +kernel⟩
/-- So many thousandths. -/
theorem thousandths {k : Nat} (hk : k ≤ 3000) : ∃ q, bin .quo (ab (floatOfInt .f64 (k : Int))) (ab 4652007308841189376) = some q ∧ Fnt q ∧ 0 ≤ val q ∧ val q ≤ 4 := by
  obtain ⟨fk, vk⟩ := int_val (K := k) (by omega)
  have k0 : (0 : Rat) ≤ (k : Rat) := Rat.natCast_nonneg
  have k1 : (k : Rat) ≤ 3000 := by
    have : (k : Rat) ≤ ((3000 : Nat) : Rat) := Rat.natCast_le_natCast.2 hk
    exact this
  have hg : goodF (ab 4652007308841189376) = true := by decide +kernel
  obtain ⟨q, hq, _⟩ := quo_is (r := floatOfInt .f64 (k : Int)) (fin_of fk) hg
  have hq' := hq
  rw [Fnt.ab fk, Fnt.ab f1000.1] at hq'
  have b0 : (3 : Rat) ≤ pw 990 := by
    have a := pw_mono (show (2 : Int) ≤ 990 by omega)
    have b : pw 2 = 4 := by decide +kernel
    grind
  obtain ⟨fq, nq, q0⟩ := quo_near fk f1000.1 (by rw [vk]; exact k0) (by rw [f1000.2]; decide +kernel) hq' (κ := (k : Rat) / 1000) (B := 3) (by rw [f1000.2, vk]; grind) (by grind) b0
  have t1 := pw_mono (show (-1075 : Int) ≤ -2 by omega)
  have t2 : pw (-2) = 1 / 4 := by decide +kernel
  have k3 : (k : Rat) / 1000 ≤ 3 := by grind
  have n1 := nq.1
  rw [pw52] at n1
  refine ⟨q, hq, fq, q0, ?_⟩
  generalize (k : Rat) / 1000 = κ at k3 n1
  generalize pw (-1075) = z at t1 n1
  rw [t2] at t1
  clear hq hq' vk fk hg nq q0 fq k0 k1 b0 t2
  grind
def midBack (c : Nat) : Bool := bin .sub (ab (floatOfInt .f64 ((c + 1 : Nat) : Int))) (ab 4602678819172646912) == some (midN c)
theorem mid_back_all : ∀ c, c < 100 → midBack c = true := by decide +kernel
/-- A cell's middle, from behind. -/
theorem mid_back {c : Nat} (h : c < 100) : bin .sub (ab (floatOfInt .f64 ((c + 1 : Nat) : Int))) (ab 4602678819172646912) = some (midN c) := by
  have := mid_back_all c h
  simp only [midBack, beq_iff_eq] at this
  exact this
theorem gone_r {c E R a T q p : Nat} (hc : c < 100) (hp : p * E ≤ 3000) : rowR ⟨4607182418800017408, 4602678819172646912, 4652007308841189376, E, R⟩ ⟨midN c, 0, a, T, q⟩ 0 p = some (midN c) := by
  have M := mid_of (show c < 160 by omega)
  unfold rowR rF atF
  simp only []
  obtain ⟨x, hx, fx, x0, x2⟩ := thousandths hp
  have e1 : ((p : Int) * (E : Int)) = ((p * E : Nat) : Int) := (Int.natCast_mul _ _).symm
  have e3 : ab 0 = some 0 := by decide +kernel
  rw [e1, hx, e3]
  obtain ⟨y, hy, fy⟩ := add_fin fzero.1 fx (by grind) (by grind)
  rw [hy, M.num]
  rcases zero_times fy with h | h <;> rw [h]
  · exact M.add0
  · exact M.add1
theorem gone_d {c E R a T q p : Nat} (hc : c < 100) (hp : p * E ≤ 3000) : rowD ⟨4607182418800017408, 4602678819172646912, 4652007308841189376, E, R⟩ ⟨midN c, 0, a, T, q⟩ 0 p = some (floatOfInt .f64 (c : Int)) := by
  unfold rowD
  rw [gone_r hc hp]
  exact (mid_of (show c < 160 by omega)).d
/-- What the pulse is multiplied by. -/
def goneA (c a T : Nat) : C2 := ampF (ab T) (some (midN c)) (ab 4602678819172646912) (ab a)
/-- An echo's strength that is let in. -/
def AmpOK (a : Nat) : Prop := PB (some a) 333
theorem gone_p2 {c a k T : Nat} (hc : c < 100) (hk : k ≤ 1000) (hT : bin .quo (ab (floatOfInt .f64 (k : Int))) (ab 4652007308841189376) = some T) (ha : AmpOK a) : P2 (goneA c a T) 340 := by
  have M := mid_of (show c < 160 by omega)
  obtain ⟨T', e, fT, t0, t4⟩ := thousandths (k := k) (by omega)
  rw [hT] at e
  cases e
  obtain ⟨fq, vq⟩ := int_val (K := 4 * c + 2) (by omega)
  have q1 : (0 : Rat) ≤ ((4 * c + 2 : Nat) : Rat) := Rat.natCast_nonneg
  have q2 : ((4 * c + 2 : Nat) : Rat) ≤ 500 := by
    have : ((4 * c + 2 : Nat) : Rat) ≤ ((500 : Nat) : Rat) := Rat.natCast_le_natCast.2 (by omega)
    exact this
  have big : (1000 : Rat) ≤ pw 1000 := by
    have a := pw_mono (show (10 : Int) ≤ 1000 by omega)
    have b : pw 10 = 1024 := by decide +kernel
    grind
  obtain ⟨x, hx⟩ := bin_some_sub fT fq
  obtain ⟨fx, nx⟩ := sub_near fT fq hx (B := 600) (by rw [vq]; grind) (by rw [vq]; grind) (by grind)
  rw [pw53, vq] at nx
  obtain ⟨nx1, nx2⟩ := nx
  have hph : phaseF (ab T) (some (midN c)) (ab 4602678819172646912) = some x := by
    unfold phaseF
    rw [M.waves, Fnt.ab fT]; exact hx
  obtain ⟨u, v, hu, hv, hg⟩ := turn_good fx (by grind) (by grind)
  have pq := bc_p2 (good_bc hg)
  unfold goneA ampF
  rw [hph, hu, hv]
  obtain ⟨y, ey, fy, _⟩ := id ha
  cases ey
  have ea : ab a = some a := Fnt.ab fy
  rw [ea]
  exact ⟨(pq.1.mul ha (by omega) (by omega)).mono (by omega), (pq.2.mul ha (by omega) (by omega)).mono (by omega)⟩
/-- A target of the ground stands where it stands, in each row. -/
theorem gone_rows {c E R a T q n : Nat} (hc : c < 100) (hm : ∀ p, p < R → p * E ≤ 3000) (hn : 100 + n ≤ E) : (∀ p, p < R → heardF (rowR ⟨4607182418800017408, 4602678819172646912, 4652007308841189376, E, R⟩ ⟨midN c, 0, a, T, q⟩ 0 p) (rowD ⟨4607182418800017408, 4602678819172646912, 4652007308841189376, E, R⟩ ⟨midN c, 0, a, T, q⟩ 0 p) = true ∧ intD (rowD ⟨4607182418800017408, 4602678819172646912, 4652007308841189376, E, R⟩ ⟨midN c, 0, a, T, q⟩ 0 p) = c ∧ rowA ⟨4607182418800017408, 4602678819172646912, 4652007308841189376, E, R⟩ ⟨midN c, 0, a, T, q⟩ 0 p = goneA c a T) ∧ c + n ≤ E := by
  have M := mid_of (show c < 160 by omega)
  refine ⟨fun p hp => ⟨?_, ?_, ?_⟩, by omega⟩
  · rw [gone_r hc (hm p hp), gone_d hc (hm p hp)]; exact M.heard
  · rw [gone_d hc (hm p hp)]; exact M.int
  · unfold rowA goneA
    rw [gone_r hc (hm p hp)]
/-- What the law lets through as a strength. -/
theorem amp_ok {a : Nat} (h1 : ∃ r, bin .sub (ab a) (ab a) = some r) (h2 : gtF (ab a) (ab 6103021453049119613) = false) (h3 : ltF (ab a) (ab 15326393489903895421) = false) (hn : eqF (ab a) (ab a) = true) : AmpOK a := by
  have fa : Fnt a := by
    rcases Classical.em (Fnt a) with h | h
    · exact h
    · exfalso
      rcases not_fnt h with q | ⟨_, q⟩
      · rw [q] at hn; cases hn
      · obtain ⟨r, hr⟩ := h1
        rw [q] at hr; cases hr
  have g1 : Fnt 6103021453049119613 ∧ val 6103021453049119613 ≤ pw 333 := by
    refine ⟨by unfold Fnt; decide, ?_⟩
    decide +kernel
  have g2 : Fnt 15326393489903895421 ∧ -pw 333 ≤ val 15326393489903895421 := by
    refine ⟨by unfold Fnt; decide, ?_⟩
    decide +kernel
  rw [gtF_val fa g1.1, decide_eq_false_iff_not] at h2
  rw [ltF_val fa g2.1, decide_eq_false_iff_not] at h3
  exact ⟨a, rfl, fa, by have := g1.2; grind, by have := g2.2; grind⟩
theorem amp_one : AmpOK 4607182418800017408 := ⟨_, rfl, by unfold Fnt; decide, by
  have a := pw_mono (show (0 : Int) ≤ 333 by omega)
  have b : pw 0 = 1 := by decide +kernel
  have c : val 4607182418800017408 = 1 := by decide +kernel
  rw [c]; grind, by
  have a := pw_pos 333
  have c : val 4607182418800017408 = 1 := by decide +kernel
  rw [c]; grind⟩
end Go.Proofs.Ytgalgnopjcpocaa
/- TopGone: Rows over the ground. -/
namespace Go.Proofs.Ytgalgnopjcpocaa
open Go.ChangeShapes Go.WideShapes Go.ChangeAt Go.RowKit Go.Fl Ieee

theorem all_fin {w : World} {g n c : Nat} {f : Nat → Tg} (h : TL w g n f) (hn : n ≤ 1000000) (hf : ∀ i, i < n → finT (f i) = true) (w' : World) (hu : Up w w') : Calls Try.prog 55 #[.slice (some ⟨g, 0, none⟩) n c] w' (BU true w') :=
  t55 g n c n f true w' (h.up hu) hn hf (Or.inr ⟨rfl, rfl⟩)
theorem row_err {w : World} {cc vv rr n pc tm wd T cp R : Nat} {E seed : Int} {q0 p : Option Addr} {z z0 : Int} {b3 b4 b5 : Bool} (h0 : checkF (ab cc) (ab vv) (ab rr) E R = z0) (hn : n ≤ 1000000) (hT : T ≤ 1000000) (h3 : (fin (ab tm) && fin (ab wd)) = b3) (h4 : ltF (ab wd) (ab 0) = b4)
    (h5 : muchF T R n = false → ∀ w', Up w w' → Calls Try.prog 55 #[.slice p T cp] w' (BU b5 w')) (hz : refF z0 (decide (n = 0)) (muchF T R n) b3 b4 b5 = z) (hne : z ≠ 0) :
    Calls Try.prog 27 #[.agg #[.float .f64 cc, .float .f64 vv, .float .f64 rr, .int .i64 E, .int .i64 R], .slice q0 n pc, .slice p T cp, .float .f64 tm, .float .f64 wd, .int .u64 seed] w (ER z w) := by
  refine t27e hne fun W hW => ?_
  rw [← hz]
  exact t38 h0 (by omega) (by omega) h3 h4 fun hm w' hu' => h5 hm w' (hW.trans hu')
/-- Rows, answered. -/
theorem row_ok {w : World} {cc vv rr n pc tm wd T cp E R N pg po tg : Nat} {seed : Int} {p : Option Addr} {fp : Nat → Nat × Nat} {f : Nat → Tg} (h0 : checkF (ab cc) (ab vv) (ab rr) (E : Int) (R : Int) = 0) (hN : R * E = N) (hn1 : 1 ≤ n) (hm : muchF T R n = false) (h3 : (fin (ab tm) && fin (ab wd)) = true) (h4 : ltF (ab wd) (ab 0) = false) (hp : RD w pg po n fp)
    (ht : TL w tg T f) (htp : 0 < T → p = some ⟨tg, 0, none⟩) (hf : ∀ i, i < T → finT (f i) = true) :
    Calls Try.prog 27 #[.agg #[.float .f64 cc, .float .f64 vv, .float .f64 rr, .int .i64 E, .int .i64 R], .slice (some ⟨pg, po, none⟩) n pc, .slice p T cp, .float .f64 tm, .float .f64 wd, .int .u64 seed] w (OKT w R E (fun k g => finalS ⟨cc, vv, rr, E, R⟩ f tm n N (fun i => ab2 (fp i)) T wd seed (k * E + g))) := by
  have hm' := hm
  unfold muchF at hm'
  simp at hm'
  obtain ⟨⟨hT, hn2⟩, _⟩ := hm'
  have hck := h0
  unfold checkF at hck
  split at hck
  · rename_i hb
    obtain ⟨g1, g2, g3, e1, e2, r1, r2⟩ := hb
    have hN2 : N ≤ 262144 := by
      rw [← hN]
      have e : ((R * E : Nat) : Int) = (E : Int) * (R : Int) := by rw [Int.natCast_mul, Int.mul_comm]
      by_cases hgt : (E : Int) * (R : Int) > 262144
      · rw [if_pos hgt] at hck; cases hck
      · omega
    refine t27 (fun W hW => ?_) g1 g2 (by omega) (by omega) (by omega) hN hN2 hn1 hn2 hT hp ht htp (fun i hi => by
      have q := hf i hi
      simp only [finT, fin4F, Bool.and_eq_true] at q
      exact q.2.2.2)
    have e : refF 0 (decide (n = 0)) (muchF T R n) true false true = 0 := by
      rw [hm, decide_eq_false (by omega)]; rfl
    rw [← e]
    refine t38 h0 (by omega) (by omega) h3 h4 fun _ w' hu' => ?_
    rcases Nat.eq_zero_or_pos T with rfl | hp0
    · exact t55z _ _ _
    · rw [htp hp0]
      exact all_fin ht (by omega) hf w' (hW.trans hu')
  · cases hck
/-- Echoes over the ground, of what stands still. -/
theorem rows_ground {w : World} {n E R T pg cap tg cp : Nat} {p : Option Addr} {fp : Nat → Nat × Nat} {f : Nat → Tg} {c a k tn : Nat → Nat} (hn1 : 1 ≤ n) (hn : n ≤ 160) (hE : 100 + n = E) (hR1 : 1 ≤ R) (hR : R ≤ 10) (hT : T ≤ 12) (hp : RD w pg 0 n fp) (ht : TL w tg T f) (htp : 0 < T → p = some ⟨tg, 0, none⟩)
    (hf : ∀ i, i < T → f i = ⟨midN (c i), 0, a i, tn i, 0⟩ ∧ c i < 100 ∧ k i ≤ 1000 ∧ bin .quo (ab (floatOfInt .f64 (k i : Int))) (ab 4652007308841189376) = some (tn i) ∧ AmpOK (a i)) :
    Calls Try.prog 27 #[.agg #[.float .f64 4607182418800017408, .float .f64 4602678819172646912, .float .f64 4652007308841189376, .int .i64 E, .int .i64 R], .slice (some ⟨pg, 0, none⟩) n cap, .slice p T cp, .float .f64 0, .float .f64 0, .int .u64 1] w (OKT w R E (fun _ g => pile (fun i => goneA (c i) (a i) (tn i)) c (fun i => ab2 (fp i)) n T g)) := by
  have hRE : R * E ≤ 2600 := Nat.le_trans (Nat.mul_le_mul hR (show E ≤ 260 by omega)) (by omega)
  have hRn : T * R * n ≤ 19200 := Nat.le_trans (Nat.mul_le_mul (Nat.mul_le_mul hT hR) hn) (by omega)
  have g1 : goodF (ab 4607182418800017408) = true ∧ goodF (ab 4602678819172646912) = true ∧ goodF (ab 4652007308841189376) = true := by decide +kernel
  have h0 : checkF (ab 4607182418800017408) (ab 4602678819172646912) (ab 4652007308841189376) (E : Int) (R : Int) = 0 := by
    unfold checkF
    have e : (E : Int) * (R : Int) = ((R * E : Nat) : Int) := by rw [Int.natCast_mul, Int.mul_comm]
    rw [if_pos ⟨g1.1, g1.2.1, g1.2.2, by omega, by omega, by omega, by omega⟩, if_neg (by omega)]
  have key := row_ok (w := w) (pc := cap) (tm := 0) (wd := 0) (cp := cp) (N := R * E) (seed := 1) (p := p) (f := f) (fp := fp) (n := n) (po := 0) h0 rfl hn1 (by
    unfold muchF
    rw [decide_eq_false (show ¬ 256 < T by omega), decide_eq_false (show ¬ 16384 < n by omega), decide_eq_false (show ¬ 16777216 < T * R * n by omega)]
    rfl) (by decide +kernel) (by decide +kernel) hp ht htp (fun i hi => by
    obtain ⟨e1, h1, h2, h3, h4⟩ := hf i hi
    obtain ⟨T', e, fT, _, _⟩ := thousandths (k := k i) (by omega)
    rw [h3] at e
    cases e
    obtain ⟨y, ey, fy, _⟩ := h4
    cases ey
    have M := mid_of (show c i < 160 by omega)
    have f1 : fin (ab (midN (c i))) = true := by rw [M.num]; exact M.fin
    have f3 : fin (ab 0) = true := by decide +kernel
    rw [e1]
    unfold finT fin4F
    simp only [f1, fin_of fT, fin_of fy, f3]; rfl)
  refine key.mono fun e w' h => ?_
  obtain ⟨A, B, d, he, k1, k2⟩ := h
  refine ⟨A, B, d, he, k1, fun q hq g hg => ?_⟩
  rw [k2.out q hq g hg]
  have hw : gtF (ab 0) (ab 0) = false := by decide +kernel
  unfold finalS
  rw [hw, if_neg (by decide)]
  exact scene_pile (b := ⟨4607182418800017408, 4602678819172646912, 4652007308841189376, E, R⟩) rfl T (fun i hi => by
    obtain ⟨e1, h1, h2, h3, h4⟩ := hf i hi
    rw [e1]
    exact gone_rows h1 (fun p hp => by
      have : p * E ≤ R * E := Nat.mul_le_mul_right _ (Nat.le_of_lt hp)
      omega) (by omega)) q g hq hg
end Go.Proofs.Ytgalgnopjcpocaa
/- TopGone: a list of targets that grows; what is left is nought. -/
namespace Go.Proofs.Ytgalgnopjcpocaa
open Go.ChangeShapes Go.WideShapes Go.ChangeAt Go.RowKit Go.Fl Ieee
attribute [local go_sem] run_store_float run_store_c isSome_set call20 call33 run_neg fold_eq fold_ne fold_lt fold_gt abs_eq

def te (t : Tg) : List Value := [.float .f64 t.r, .float .f64 t.s, .float .f64 t.a, .float .f64 t.t, .float .f64 t.b]
/-- Targets in a row of one's own. -/
def TO (b : Nat) (w : World) (v : Value) (l : List Tg) : Prop := w.ownsRow b 67 5 v l.length (l.flatMap te)
theorem TO.up {b : Nat} {w w' : World} {v : Value} {l : List Tg} (h : TO b w v l) (hu : Up w w') : TO b w' v l := owns_up h hu
theorem te_len (l : List Tg) : (l.flatMap te).length = l.length * 5 := by
  induction l with
  | nil => rfl
  | cons a l ih => simp only [List.flatMap_cons, List.length_append, ih, List.length_cons]; simp [te]; omega
theorem te_get (l : List Tg) : ∀ i t, l[i]? = some t → (l.flatMap te)[i * 5]? = some (.float .f64 t.r) ∧ (l.flatMap te)[i * 5 + 1]? = some (.float .f64 t.s) ∧ (l.flatMap te)[i * 5 + 2]? = some (.float .f64 t.a) ∧ (l.flatMap te)[i * 5 + 3]? = some (.float .f64 t.t) ∧ (l.flatMap te)[i * 5 + 4]? = some (.float .f64 t.b) := by
  induction l with
  | nil => intro i t h; simp at h
  | cons a l ih =>
    intro i t h
    cases i with
    | zero =>
      simp at h
      subst h
      simp [List.flatMap_cons, te]
    | succ k =>
      have := ih k t (by simpa using h)
      have e1 : (k + 1) * 5 = k * 5 + 1 + 1 + 1 + 1 + 1 := by omega
      simp only [List.flatMap_cons, te, e1]
      simpa using this
theorem TO.tl {b : Nat} {w : World} {g n cap : Nat} {l : List Tg} {f : Nat → Tg} (h : TO b w (.slice (some ⟨g, 0, none⟩) n cap) l) (hf : ∀ i, i < n → l[i]? = some (f i)) : TL w g n f := fun i hi => by
  have hn : l.length = n := by
    obtain ⟨p, c, he, _⟩ := own_form h
    simp only [Value.slice.injEq] at he
    exact he.2.1.symm
  unfold TO at h
  rw [hn] at h
  obtain ⟨h0, h1, h2, h3, h4⟩ := te_get l i (f i) (hf i hi)
  rw [World.ownsRow.cellAt h (i * 5) (by omega), World.ownsRow.cellAt h (i * 5 + 1) (by omega), World.ownsRow.cellAt h (i * 5 + 2) (by omega), World.ownsRow.cellAt h (i * 5 + 3) (by omega), World.ownsRow.cellAt h (i * 5 + 4) (by omega)]
  exact ⟨h0, h1, h2, h3, h4⟩
theorem dk_congr {F F' : Nat → Nat → C2} {g : Nat} : ∀ (k a : Nat), (∀ b, b ≤ a → F b g = F' b g) → dk F k a g = dk F' k a g
  | 0, a, h => h a (Nat.le_refl _)
  | k + 1, a, h => by
    rw [dk, dk, dk_congr k a h, dk_congr k (a - 1) (fun b hb => h b (by omega))]
set_option maxRecDepth 20000 in
theorem t43z (w : World) : Calls Try.prog 43 #[.float .f64 0, .float .f64 0] w fun e w' => e = .returned (.bool true) ∧ w' = w := by
  go_enter Try.func43, Try.ntmps43
  go_wp2
  go_ret
  exact ⟨rfl, rfl⟩
set_option maxRecDepth 20000 in
theorem t28z (w : World) : Calls Try.prog 28 #[.complex .f64 0 0, .complex .f64 0 0] w fun e w' => e = .returned (.bool true) ∧ w' = w := by
  go_enter Try.func28, Try.ntmps28
  go_wp2_with (go_at_call 43; (with_reducible refine (t43z _).mono ?_); rintro e w' ⟨rfl, hw⟩; subst w')
  go_ret
  exact ⟨rfl, rfl⟩
/-- What Cancel leaves of rows that are alike: noughts. -/
def GN (w : World) (m o n : Nat) (e : Ending) (w' : World) : Prop := ∃ (A : Nat) (B : Nat → Nat), e = .returned (.tuple #[.slice (some ⟨A, o, none⟩) n n, .int .i64 0]) ∧ Hid (Up w w') ∧ Hid (∀ i, i < n → w'.cell? ⟨A, o + i, none⟩ = some (.slice (some ⟨B (o + i), 0, none⟩) m m) ∧ ∀ g, g < m → w'.cell? ⟨B (o + i), g, none⟩ = some (.complex .f64 0 0))
theorem gone_call {W : World} {A B R E o n : Nat} {d : List (Nat × Nat)} {V : Nat → C2} {k : Int} (h : MT W A B R E d (fun _ g => V g)) (hV : ∀ g, g < E → P2 (V g) k) (hR : R ≤ 256) (hE : E ≤ 16384) (hRE : R * E ≤ 262144) (ho : o < 9) (ho1 : 1 ≤ o) (hn : o + n = R) (hn1 : 1 ≤ n) : Calls Try.prog 22 #[.slice (some ⟨A, 0, none⟩) R R, .int .i64 o] W (GN W E o n) := by
  refine (t22 h.ti (Nat.le_refl R) hR hE hRE ho hn hn1).mono fun e w' hc => ?_
  obtain ⟨A2, B2, D, he, HR, HU, HV⟩ := hc
  refine ⟨A2, B2, he, HU, fun i hi => ⟨HR.out.hdr (o + i) (by omega), fun g hg => ?_⟩⟩
  have q := HV.out (o + i) (by omega) g hg
  rw [dk_congr (F' := fun _ g => V g) o (o + i) (fun b hb => h.is b (by omega) g hg), dk_gone (hV g hg) o (o + i) (by omega) ho1] at q
  rw [HR.out.cell (a := o + i) (g := g) (by omega) hg, of_ab (congrArg Prod.fst q), of_ab (congrArg Prod.snd q)]
end Go.Proofs.Ytgalgnopjcpocaa

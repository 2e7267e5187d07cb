/- Load as a fraction; what Next and Until leave of a plan that is never late. -/
import Derived.Test.YtjklaemhfhakhaaMe
import Derived.Test.YtjklaemhfhakhaaEc
import Derived.Test.YtjklaemhfhakhaaEf
namespace Go.Proofs.Ytjklaemhfhakhaa

def denN (E : Nat → Nat) : Nat → Nat
  | 0 => 1
  | k + 1 => denN E k * E k
def numN (E L : Nat → Nat) : Nat → Nat
  | 0 => 0
  | k + 1 => numN E L k * E k + L k * denN E k
theorem loadS_frac {a d e l P Q n' d' : Nat} (h0 : a * P = d * Q) (hd : 1 ≤ d) (he : 1 ≤ e) (h : loadS a d e l = some (n', d')) : n' * (P * e) = d' * (Q * e + l * P) := by
  unfold loadS at h
  have hg : 0 < Nat.gcd d e := Nat.gcd_pos_of_pos_left _ hd
  obtain ⟨d1, hd1⟩ := Nat.gcd_dvd_left d e
  obtain ⟨e1, he1⟩ := Nat.gcd_dvd_right d e
  have q1 : d / Nat.gcd d e = d1 := by rw [Nat.div_eq_of_eq_mul_right hg hd1]
  have q2 : e / Nat.gcd d e = e1 := by rw [Nat.div_eq_of_eq_mul_right hg he1]
  simp only [q1, q2] at h
  generalize Nat.gcd d e = g at *
  split at h
  · cases h
  · simp only [Option.some.injEq, Prod.mk.injEq] at h
    obtain ⟨rfl, rfl⟩ := h
    have d1p : 0 < d1 := Nat.pos_of_ne_zero (fun q => by subst q; omega)
    have hD : 0 < d1 * e := Nat.mul_pos d1p he
    have hh : 0 < Nat.gcd (a * e1 + l * d1) (d1 * e) := Nat.gcd_pos_of_pos_right _ hD
    obtain ⟨N1, hN⟩ := Nat.gcd_dvd_left (a * e1 + l * d1) (d1 * e)
    obtain ⟨D1, hD1⟩ := Nat.gcd_dvd_right (a * e1 + l * d1) (d1 * e)
    have r1 : (a * e1 + l * d1) / Nat.gcd (a * e1 + l * d1) (d1 * e) = N1 := by rw [Nat.div_eq_of_eq_mul_right hh hN]
    have r2 : d1 * e / Nat.gcd (a * e1 + l * d1) (d1 * e) = D1 := by rw [Nat.div_eq_of_eq_mul_right hh hD1]
    rw [r1, r2]
    generalize Nat.gcd (a * e1 + l * d1) (d1 * e) = t at *
    refine Nat.eq_of_mul_eq_mul_left hh ?_
    have k1 : t * (N1 * (P * e)) = (a * e1 + l * d1) * (P * e) := by rw [hN]; grind
    have k2 : t * (D1 * (Q * e + l * P)) = d1 * e * (Q * e + l * P) := by rw [hD1]; grind
    rw [k1, k2]
    have k3 : a * e1 * P = d1 * Q * e := by
      have : a * P * e1 = d * Q * e1 := by rw [h0]
      rw [hd1] at this
      rw [he1]
      grind
    grind
theorem loadN_frac {E L : Nat → Nat} : ∀ (k : Nat) {a d : Nat}, (∀ i, i < k → 1 ≤ E i) → loadN E L k = some (a, d) → 1 ≤ d ∧ a * denN E k = d * numN E L k
  | 0, a, d, _, h => by
    simp only [loadN, Option.some.injEq, Prod.mk.injEq] at h
    obtain ⟨rfl, rfl⟩ := h
    exact ⟨Nat.le_refl _, rfl⟩
  | k + 1, a, d, hE, h => by
    rw [loadN] at h
    cases hk : loadN E L k with
    | none => rw [hk] at h; cases h
    | some nd =>
      obtain ⟨a0, d0⟩ := nd
      rw [hk] at h
      obtain ⟨h1, h2⟩ := loadN_frac k (fun i hi => hE i (by omega)) hk
      refine ⟨?_, loadS_frac h2 h1 (hE k (by omega)) h⟩
      unfold loadS at h
      simp only at h
      split at h
      · cases h
      · simp only [Option.some.injEq, Prod.mk.injEq] at h
        obtain ⟨_, rfl⟩ := h
        have he := hE k (by omega)
        have hg : 0 < Nat.gcd d0 (E k) := Nat.gcd_pos_of_pos_left _ h1
        have r1 : 0 < d0 / Nat.gcd d0 (E k) := Nat.div_pos (Nat.le_of_dvd h1 (Nat.gcd_dvd_left _ _)) hg
        have mD : 0 < d0 / Nat.gcd d0 (E k) * E k := Nat.mul_pos r1 he
        exact Nat.div_pos (Nat.le_of_dvd mD (Nat.gcd_dvd_right _ _)) (Nat.gcd_pos_of_pos_right _ mD)
theorem den_cast (E : Nat → Nat) : ∀ k, ((denN E k : Nat) : Int) = denQ (fun i => (E i : Int)) k
  | 0 => rfl
  | k + 1 => by
    show ((denN E k * E k : Nat) : Int) = denQ (fun i => (E i : Int)) k * (E k : Int)
    rw [Int.natCast_mul, den_cast E k]
theorem num_cast (E L : Nat → Nat) : ∀ k, ((numN E L k : Nat) : Int) = numQ (fun i => (E i : Int)) (fun i => (L i : Int)) k
  | 0 => rfl
  | k + 1 => by
    show ((numN E L k * E k + L k * denN E k : Nat) : Int) = numQ _ _ k * (E k : Int) + (L k : Int) * denQ _ k
    rw [Int.natCast_add, Int.natCast_mul, Int.natCast_mul, num_cast E L k, den_cast E k]
/-- A load of at most 1. -/
theorem light_of {E L : Nat → Nat} {n a d : Nat} (hE : ∀ i, i < n → 1 ≤ E i) (h : loadN E L n = some (a, d)) : (a ≤ d → Light n (fun i => (E i : Int)) (fun i => (L i : Int))) ∧ (d < a → denQ (fun i => (E i : Int)) n < numQ (fun i => (E i : Int)) (fun i => (L i : Int)) n) := by
  obtain ⟨h1, h2⟩ := loadN_frac n hE h
  have hp : 0 < denN E n := by
    have := denQ_pos (E := fun i => (E i : Int)) n (fun i hi => by have := hE i hi; show (0 : Int) < (E i : Int); omega)
    rw [← den_cast] at this
    omega
  constructor
  · intro q
    have k1 : a * denN E n ≤ d * denN E n := Nat.mul_le_mul_right _ q
    rw [h2] at k1
    have k2 := Nat.le_of_mul_le_mul_left k1 h1
    show numQ _ _ n ≤ denQ _ n
    rw [← den_cast, ← num_cast]
    omega
  · intro q
    have k1 : d * denN E n < a * denN E n := Nat.mul_lt_mul_of_pos_right q hp
    rw [h2] at k1
    have k2 := Nat.lt_of_mul_lt_mul_left k1
    rw [← den_cast, ← num_cast]
    omega
/-- A plan that is never late, up to B. -/
structure LS (n : Nat) (E L R : Nat → Int) (M B : Int) (p : Pl) : Prop where
  fits : Fits n E L R p
  feas : Feas n E L p
  pb : PB n p
  most : ∀ i, i < n → E i ≤ M
  now : p.now ≤ B
theorem Fits.near {n : Nat} {E L R : Nat → Int} {p : Pl} (h : Fits n E L R p) {m : Nat} {f c : Int} (s : Str n p m f c) : c ≤ p.now + 2 * E m := by
  have hm := s.runs.lt
  obtain ⟨w1, w2, w3, w4, w5⟩ := s.work h
  obtain ⟨k1, k2, k3⟩ := h.may m hm
  have k4 := h.d0 m hm
  have k5 := (h.past m hm).1
  omega
theorem LS.next {n : Nat} {E L R : Nat → Int} {M B : Int} {p : Pl} (h : LS n E L R M B p) (hl : Light n E L) (h0 : 0 < n) (hB : B + 2 * M ≤ 1152921504606846976) : nextE n p ≤ 1152921504606846976 ∧ (nextP n p).1.l = false ∧ LS n E L R M (B + 2 * M) (nextP n p).2 := by
  obtain ⟨m, f, hs, he, hto⟩ := next_of h.pb h0
  have a := h.fits.near hs
  have b := h.most m hs.runs.lt
  have c := h.now
  obtain ⟨k1, k2⟩ := h.feas.go h.fits hl hs
  rw [he]
  refine ⟨by omega, ?_, h.fits.go hs, k2, h.pb.go hs (by omega), h.most, by show nextE n p ≤ _; omega⟩
  show decide ((p.J m).due < nextE n p) = false
  simp
  omega
/-- What holds of each stretch that Until tells, and behind it. -/
theorem until_ind {n : Nat} {tick : Int} {I : Pl → Prop} {G : Sl → Prop} (ht : tick ≤ 1152921504606846976) (hb : ∀ p, I p → PB n p) (h1 : ∀ p m f c, I p → Str n p m f c → c ≤ tick → G ⟨m, f, c, decide ((p.J m).due < c)⟩ ∧ I (p.go m (c - f) c)) (h2 : ∀ p, I p → p.now < tick → (n = 0 ∨ ∃ m f, Runs n p.J p.now m f ∧ tick ≤ f) → I (p.at tick)) : ∀ k p, I p → (∀ s ∈ (untilN n tick k p).1, G s) ∧ I (untilN n tick k p).2
  | 0, p, h => ⟨fun s hs => (List.not_mem_nil hs).elim, h⟩
  | k + 1, p, h => by
    by_cases q : p.now < tick
    · by_cases n0 : n = 0
      · subst n0
        rw [until_far q (by show tick ≤ farT; unfold farT; omega)]
        exact ⟨fun s hs => (List.not_mem_nil hs).elim, h2 p h q (Or.inl rfl)⟩
      · obtain ⟨m, f, e, hr⟩ := (hb p h).runs (by omega)
        by_cases hf : tick ≤ f
        · rw [until_far q (by rw [e]; exact hf)]
          exact ⟨fun s hs => (List.not_mem_nil hs).elim, h2 p h q (Or.inr ⟨m, f, hr, hf⟩)⟩
        · rw [until_step q e (by omega)]
          have hs := cut_str (tick := tick) (hb p h) hr (by omega)
          obtain ⟨g, i⟩ := h1 p m f _ h hs (by omega)
          obtain ⟨a, b⟩ := until_ind ht hb h1 h2 k _ i
          refine ⟨fun s hs => ?_, b⟩
          rcases List.mem_cons.1 hs with rfl | q2
          · exact g
          · exact a s q2
    · rw [until_out q]
      exact ⟨fun s hs => (List.not_mem_nil hs).elim, h⟩
theorem Runs.nxs {n : Nat} {p : Pl} {m : Nat} {f c : Int} (r : Runs n p.J p.now m f) (hc : p.now < c) (hf : c ≤ f) : ∀ i, i < n → c ≤ (p.c i).hd.nx := by
  intro i hi
  have h1 := r.least i hi
  have e : (p.J i).frm = (p.c i).hd.nx := rfl
  rw [e] at h1
  omega
theorem LS.until {n : Nat} {E L R : Nat → Int} {M B : Int} {p : Pl} (h : LS n E L R M B p) (hl : Light n E L) (tick : Int) (hB : B ≤ 1152921504606846976) (hT : tick ≤ B) (k : Nat) : (∀ s ∈ (untilN n tick k p).1, s.l = false) ∧ LS n E L R M B (untilN n tick k p).2 := by
  refine until_ind (I := LS n E L R M B) (G := fun s => s.l = false) (by omega) (fun p h => h.pb) (fun p m f c h hs hc => ?_) (fun p h hq hx => ?_) k p h
  · obtain ⟨k1, k2⟩ := h.feas.go h.fits hl hs
    refine ⟨?_, h.fits.go hs, k2, h.pb.go hs (by omega), h.most, by show c ≤ B; omega⟩
    show decide _ = false
    simp
    omega
  · have hnow := h.pb.now
    refine ⟨h.fits.idle (by omega), ?_, h.pb.at (by omega) (by omega), h.most, hT⟩
    refine Feas.idle h.fits hl h.feas (by omega) ?_
    rcases hx with n0 | ⟨m, f, hr, hf⟩
    · exact Or.inr fun i hi => by omega
    · exact Or.inr (hr.nxs hq hf)
theorem LS.start {n : Nat} {T : Nat → Tk} {M : Int} (h : ∀ i, i < n → MayT (T i).e (T i).l ∧ (T i).e ≤ M) (hl : Light n (fun i => (T i).e) (fun i => (T i).l)) : LS n (fun i => (T i).e) (fun i => (T i).l) (fun i => (T i).r) M 0 (newP T) := by
  have hf : Fits n (fun i => (T i).e) (fun i => (T i).l) (fun i => (T i).r) (newP T) := ⟨fun i _ => rfl, fun i _ => rfl, fun i _ => rfl, fun i _ => rfl, fun i hi => (h i hi).1, fun i _ => Int.le_refl _, fun i hi => by have := (h i hi).1.1; show 0 < (T i).l; omega, Int.le_refl _, fun i _ => Int.le_refl _, fun i hi => ⟨by have := (h i hi).1; obtain ⟨a, b, c⟩ := this; show 0 ≤ 0 + (T i).e; omega, fun q => absurd q (by show ¬ (0 : Int) < 0; omega)⟩⟩
  exact ⟨hf, Feas.start hf hl rfl (fun i _ => rfl), PB.newP (fun i hi => (h i hi).1), fun i hi => (h i hi).2, Int.le_refl _⟩
end Go.Proofs.Ytjklaemhfhakhaa

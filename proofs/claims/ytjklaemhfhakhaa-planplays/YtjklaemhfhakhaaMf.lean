/- Load as a fraction; what Next and Until leave of a plan that is never late. -/
import Derived.Test.YtjklaemhfhakhaaMe
import Derived.Test.YtjklaemhfhakhaaEa
import Derived.Test.YtjklaemhfhakhaaEe
namespace Go.Proofs.Ytjklaemhfhakhaa

def denN (E : Nat → Nat) : Nat → Nat
  | 0 => 1
  | k + 1 => denN E k * E k
def numN (E L : Nat → Nat) : Nat → Nat
  | 0 => 0
  | k + 1 => numN E L k * E k + L k * denN E k
theorem loadS_frac {a d e l P Q n' d' : Nat} (h0 : a * P = d * Q) (hd : 1 ≤ d) (he : 1 ≤ e) (h : loadS a d e l = some (n', d')) : n' * (P * e) = d' * (Q * e + l * P) := by
  unfold loadS at h
  have hg : 0 < Nat.gcd d e := Nat.gcd_pos_of_pos_left _ hd
  obtain ⟨d1, hd1⟩ := Nat.gcd_dvd_left d e
  obtain ⟨e1, he1⟩ := Nat.gcd_dvd_right d e
  have q1 : d / Nat.gcd d e = d1 := by rw [Nat.div_eq_of_eq_mul_right hg hd1]
  have q2 : e / Nat.gcd d e = e1 := by rw [Nat.div_eq_of_eq_mul_right hg he1]
  simp only [q1, q2] at h
  generalize Nat.gcd d e = g at *
  split at h
  · cases h
  · simp only [Option.some.injEq, Prod.mk.injEq] at h
    obtain ⟨rfl, rfl⟩ := h
    have d1p : 0 < d1 := Nat.pos_of_ne_zero (fun q => by subst q; omega)
    have hD : 0 < d1 * e := Nat.mul_pos d1p he
    have hh : 0 < Nat.gcd (a * e1 + l * d1) (d1 * e) := Nat.gcd_pos_of_pos_right _ hD
    obtain ⟨N1, hN⟩ := Nat.gcd_dvd_left (a * e1 + l * d1) (d1 * e)
    obtain ⟨D1, hD1⟩ := Nat.gcd_dvd_right (a * e1 + l * d1) (d1 * e)
    have r1 : (a * e1 + l * d1) / Nat.gcd (a * e1 + l * d1) (d1 * e) = N1 := by rw [Nat.div_eq_of_eq_mul_right hh hN]
    have r2 : d1 * e / Nat.gcd (a * e1 + l * d1) (d1 * e) = D1 := by rw [Nat.div_eq_of_eq_mul_right hh hD1]
    rw [r1, r2]
    generalize Nat.gcd (a * e1 + l * d1) (d1 * e) = t at *
    refine Nat.eq_of_mul_eq_mul_left hh ?_
    have k1 : t * (N1 * (P * e)) = (a * e1 + l * d1) * (P * e) := by rw [hN]; grind
    have k2 : t * (D1 * (Q * e + l * P)) = d1 * e * (Q * e + l * P) := by rw [hD1]; grind
    rw [k1, k2]
    have k3 : a * e1 * P = d1 * Q * e := by
      have : a * P * e1 = d * Q * e1 := by rw [h0]
      rw [hd1] at this
      rw [he1]
      grind
    grind
theorem loadN_frac {E L : Nat → Nat} : ∀ (k : Nat) {a d : Nat}, (∀ i, i < k → 1 ≤ E i) → loadN E L k = some (a, d) → 1 ≤ d ∧ a * denN E k = d * numN E L k
  | 0, a, d, _, h => by
    simp only [loadN, Option.some.injEq, Prod.mk.injEq] at h
    obtain ⟨rfl, rfl⟩ := h
    exact ⟨Nat.le_refl _, rfl⟩
  | k + 1, a, d, hE, h => by
    rw [loadN] at h
    cases hk : loadN E L k with
    | none => rw [hk] at h; cases h
    | some nd =>
      obtain ⟨a0, d0⟩ := nd
      rw [hk] at h
      obtain ⟨h1, h2⟩ := loadN_frac k (fun i hi => hE i (by omega)) hk
      refine ⟨?_, loadS_frac h2 h1 (hE k (by omega)) h⟩
      unfold loadS at h
      simp only at h
      split at h
      · cases h
      · simp only [Option.some.injEq, Prod.mk.injEq] at h
        obtain ⟨_, rfl⟩ := h
        have he := hE k (by omega)
        have hg : 0 < Nat.gcd d0 (E k) := Nat.gcd_pos_of_pos_left _ h1
        have r1 : 0 < d0 / Nat.gcd d0 (E k) := Nat.div_pos (Nat.le_of_dvd h1 (Nat.gcd_dvd_left _ _)) hg
        have mD : 0 < d0 / Nat.gcd d0 (E k) * E k := Nat.mul_pos r1 he
        exact Nat.div_pos (Nat.le_of_dvd mD (Nat.gcd_dvd_right _ _)) (Nat.gcd_pos_of_pos_right _ mD)
theorem den_cast (E : Nat → Nat) : ∀ k, ((denN E k : Nat) : Int) = denQ (fun i => (E i : Int)) k
  | 0 => rfl
  | k + 1 => by
    show ((denN E k * E k : Nat) : Int) = denQ (fun i => (E i : Int)) k * (E k : Int)
    rw [Int.natCast_mul, den_cast E k]
theorem num_cast (E L : Nat → Nat) : ∀ k, ((numN E L k : Nat) : Int) = numQ (fun i => (E i : Int)) (fun i => (L i : Int)) k
  | 0 => rfl
  | k + 1 => by
    show ((numN E L k * E k + L k * denN E k : Nat) : Int) = numQ _ _ k * (E k : Int) + (L k : Int) * denQ _ k
    rw [Int.natCast_add, Int.natCast_mul, Int.natCast_mul, num_cast E L k, den_cast E k]
/-- A load of at most 1. -/
theorem light_of {E L : Nat → Nat} {n a d : Nat} (hE : ∀ i, i < n → 1 ≤ E i) (h : loadN E L n = some (a, d)) : (a ≤ d → Light n (fun i => (E i : Int)) (fun i => (L i : Int))) ∧ (d < a → denQ (fun i => (E i : Int)) n < numQ (fun i => (E i : Int)) (fun i => (L i : Int)) n) := by
  obtain ⟨h1, h2⟩ := loadN_frac n hE h
  have hp : 0 < denN E n := by
    have := denQ_pos (E := fun i => (E i : Int)) n (fun i hi => by have := hE i hi; show (0 : Int) < (E i : Int); omega)
    rw [← den_cast] at this
    omega
  constructor
  · intro q
    have k1 : a * denN E n ≤ d * denN E n := Nat.mul_le_mul_right _ q
    rw [h2] at k1
    have k2 := Nat.le_of_mul_le_mul_left k1 h1
    show numQ _ _ n ≤ denQ _ n
    rw [← den_cast, ← num_cast]
    omega
  · intro q
    have k1 : d * denN E n < a * denN E n := Nat.mul_lt_mul_of_pos_right q hp
    rw [h2] at k1
    have k2 := Nat.lt_of_mul_lt_mul_left k1
    rw [← den_cast, ← num_cast]
    omega
/-- A plan that is never late, up to B. -/
structure LS (n : Nat) (E L R : Nat → Int) (M B : Int) (p : Pl) : Prop where
  fits : Fits n E L R p
  feas : Feas n E L p
  pb : PB n p
  most : ∀ i, i < n → E i ≤ M
  now : p.now ≤ B
theorem Fits.near {n : Nat} {E L R : Nat → Int} {p : Pl} (h : Fits n E L R p) {m : Nat} {f c : Int} (s : Str n p m f c) : c ≤ p.now + 2 * E m := by
  have hm := s.runs.lt
  obtain ⟨w1, w2, w3, w4, w5⟩ := s.work h
  obtain ⟨k1, k2, k3⟩ := h.may m hm
  have k4 := h.d0 m hm
  have k5 := (h.past m hm).1
  omega
theorem LS.next {n : Nat} {E L R : Nat → Int} {M B : Int} {p : Pl} (h : LS n E L R M B p) (hl : Light n E L) (h0 : 0 < n) (hB : B + 2 * M ≤ 1152921504606846976) : nextE n p ≤ 1152921504606846976 ∧ (nextP n p).1.l = false ∧ LS n E L R M (B + 2 * M) (nextP n p).2 := by
  obtain ⟨m, f, hs, he, hto⟩ := next_of h.pb h0
  have a := h.fits.near hs
  have b := h.most m hs.runs.lt
  have c := h.now
  obtain ⟨k1, k2⟩ := h.feas.go h.fits hl hs
  rw [he]
  refine ⟨by omega, ?_, h.fits.go hs, k2, h.pb.go hs (by omega), h.most, by show nextE n p ≤ _; omega⟩
  show decide ((p.J m).due < nextE n p) = false
  simp
  omega
/-- What holds of each stretch that Until tells, and behind it. -/
theorem until_ind {n : Nat} {tick : Int} {I : Pl → Prop} {G : Sl → Prop} (ht : tick ≤ 1152921504606846976) (hb : ∀ p, I p → PB n p) (h1 : ∀ p m f c, I p → Str n p m f c → c ≤ tick → G ⟨m, f, c, decide ((p.J m).due < c)⟩ ∧ I (p.go m (c - f) c)) (h2 : ∀ p, I p → p.now < tick → (n = 0 ∨ ∃ m f, Runs n p.J p.now m f ∧ tick ≤ f) → I (p.at tick)) : ∀ k p, I p → (∀ s ∈ (untilN n tick k p).1, G s) ∧ I (untilN n tick k p).2
  | 0, p, h => ⟨fun s hs => (List.not_mem_nil hs).elim, h⟩
  | k + 1, p, h => by
    by_cases q : p.now < tick
    · by_cases n0 : n = 0
      · subst n0
        rw [until_far q (by show tick ≤ farT; unfold farT; omega)]
        exact ⟨fun s hs => (List.not_mem_nil hs).elim, h2 p h q (Or.inl rfl)⟩
      · obtain ⟨m, f, e, hr⟩ := (hb p h).runs (by omega)
        by_cases hf : tick ≤ f
        · rw [until_far q (by rw [e]; exact hf)]
          exact ⟨fun s hs => (List.not_mem_nil hs).elim, h2 p h q (Or.inr ⟨m, f, hr, hf⟩)⟩
        · rw [until_step q e (by omega)]
          have hs := cut_str (tick := tick) (hb p h) hr (by omega)
          obtain ⟨g, i⟩ := h1 p m f _ h hs (by omega)
          obtain ⟨a, b⟩ := until_ind ht hb h1 h2 k _ i
          refine ⟨fun s hs => ?_, b⟩
          rcases List.mem_cons.1 hs with rfl | q2
          · exact g
          · exact a s q2
    · rw [until_out q]
      exact ⟨fun s hs => (List.not_mem_nil hs).elim, h⟩
theorem Runs.nxs {n : Nat} {p : Pl} {m : Nat} {f c : Int} (r : Runs n p.J p.now m f) (hc : p.now < c) (hf : c ≤ f) : ∀ i, i < n → c ≤ (p.c i).hd.nx := by
  intro i hi
  have h1 := r.least i hi
  have e : (p.J i).frm = (p.c i).hd.nx := rfl
  rw [e] at h1
  omega
theorem LS.until {n : Nat} {E L R : Nat → Int} {M B : Int} {p : Pl} (h : LS n E L R M B p) (hl : Light n E L) (tick : Int) (hB : B ≤ 1152921504606846976) (hT : tick ≤ B) (k : Nat) : (∀ s ∈ (untilN n tick k p).1, s.l = false) ∧ LS n E L R M B (untilN n tick k p).2 := by
  refine until_ind (I := LS n E L R M B) (G := fun s => s.l = false) (by omega) (fun p h => h.pb) (fun p m f c h hs hc => ?_) (fun p h hq hx => ?_) k p h
  · obtain ⟨k1, k2⟩ := h.feas.go h.fits hl hs
    refine ⟨?_, h.fits.go hs, k2, h.pb.go hs (by omega), h.most, by show c ≤ B; omega⟩
    show decide _ = false
    simp
    omega
  · have hnow := h.pb.now
    refine ⟨h.fits.idle (by omega), ?_, h.pb.at (by omega) (by omega), h.most, hT⟩
    refine Feas.idle h.fits hl h.feas (by omega) ?_
    rcases hx with n0 | ⟨m, f, hr, hf⟩
    · exact Or.inr fun i hi => by omega
    · exact Or.inr (hr.nxs hq hf)
theorem LS.start {n : Nat} {T : Nat → Tk} {M : Int} (h : ∀ i, i < n → MayT (T i).e (T i).l ∧ (T i).e ≤ M) (hl : Light n (fun i => (T i).e) (fun i => (T i).l)) : LS n (fun i => (T i).e) (fun i => (T i).l) (fun i => (T i).r) M 0 (newP T) := by
  have hf : Fits n (fun i => (T i).e) (fun i => (T i).l) (fun i => (T i).r) (newP T) := ⟨fun i _ => rfl, fun i _ => rfl, fun i _ => rfl, fun i _ => rfl, fun i hi => (h i hi).1, fun i _ => Int.le_refl _, fun i hi => by have := (h i hi).1.1; show 0 < (T i).l; omega, Int.le_refl _, fun i _ => Int.le_refl _, fun i hi => ⟨by have := (h i hi).1; obtain ⟨a, b, c⟩ := this; show 0 ≤ 0 + (T i).e; omega, fun q => absurd q (by show ¬ (0 : Int) < 0; omega)⟩⟩
  exact ⟨hf, Feas.start hf hl rfl (fun i _ => rfl), PB.newP (fun i hi => (h i hi).1), fun i hi => (h i hi).2, Int.le_refl _⟩
end Go.Proofs.Ytjklaemhfhakhaa
/- Shares: how long each task has been at work. No program. -/
namespace Go.Proofs.Ytjklaemhfhakhaa

/-- How long a task is at work in these stretches. -/
def shL : List Sl → Int → Int
  | [], _ => 0
  | s :: r, i => (if s.t = i then s.e - s.f else 0) + shL r i
/-- How long any is. -/
def buL : List Sl → Int
  | [] => 0
  | s :: r => (s.e - s.f) + buL r
/-- Stretches one behind the other. -/
def Chn (a : Int) : List Sl → Int → Prop
  | [], b => a ≤ b
  | s :: r, b => a ≤ s.f ∧ s.f < s.e ∧ Chn s.e r b
theorem shL_app (i : Int) : ∀ l r, shL (l ++ r) i = shL l i + shL r i
  | [], r => by show shL r i = 0 + shL r i; omega
  | s :: l, r => by show (if s.t = i then s.e - s.f else 0) + shL (l ++ r) i = (if s.t = i then s.e - s.f else 0) + shL l i + shL r i; rw [shL_app i l r]; omega
theorem buL_app : ∀ l r, buL (l ++ r) = buL l + buL r
  | [], r => by show buL r = 0 + buL r; omega
  | s :: l, r => by show (s.e - s.f) + buL (l ++ r) = (s.e - s.f) + buL l + buL r; rw [buL_app l r]; omega
theorem Chn.app {b c : Int} {r : List Sl} (k : Chn b r c) : ∀ {a : Int} {l : List Sl}, Chn a l b → Chn a (l ++ r) c
  | _, [], h => by
    cases r with
    | nil => exact Int.le_trans h k
    | cons s r => exact ⟨Int.le_trans h k.1, k.2.1, k.2.2⟩
  | _, _ :: _, h => ⟨h.1, h.2.1, Chn.app k h.2.2⟩
theorem Chn.le : ∀ {a b : Int} {l : List Sl}, Chn a l b → a ≤ b
  | _, _, [], h => h
  | _, _, _ :: _, h => by
    have := Chn.le h.2.2
    have := h.1
    have := h.2.1
    omega
/-- A plan whose releases are those of its tasks. -/
structure SI (n : Nat) (E L R : Nat → Int) (p : Pl) : Prop where
  fits : Fits n E L R p
  pb : PB n p
  q : ∀ i, i < n → ∃ q : Int, (p.c i).hd.nx = q * E i
  near : ∀ i, i < n → (p.c i).hd.nx < p.now + E i
/-- How long a task has been at work. -/
def shP (E L : Nat → Int) (p : Pl) (i : Nat) : Int := (p.c i).hd.nx / E i * L i + (p.c i).done
theorem SI.at {n : Nat} {E L R : Nat → Int} {p : Pl} (h : SI n E L R p) {c : Int} (h1 : p.now ≤ c) (h2 : c ≤ 1152921504606846976) : SI n E L R (p.at c) := by
  have := h.pb.now
  refine ⟨h.fits.idle h1, h.pb.at (by omega) h2, h.q, fun i hi => ?_⟩
  have := h.near i hi
  show (p.c i).hd.nx < c + E i
  omega
theorem SI.go {n : Nat} {E L R : Nat → Int} {p : Pl} (h : SI n E L R p) {m : Nat} {f c : Int} (s : Str n p m f c) (hc : c ≤ 1152921504606846976) : SI n E L R (p.go m (c - f) c) ∧ ∀ i, i < n → shP E L (p.go m (c - f) c) i = shP E L p i + if (m : Int) = i then c - f else 0 := by
  have hm := s.runs.lt
  have hlt := s.lt
  obtain ⟨w1, w2, w3, w4, w5⟩ := s.work h.fits
  have E0 := h.fits.E0 m hm
  have hne : ∀ i, i ≠ m → (p.go m (c - f) c).c i = p.c i := fun i hi => upd_ne _ _ hi
  have hmm : (p.go m (c - f) c).c m = (p.c m).work (c - f) := upd_at _ _ _
  obtain ⟨q, hq⟩ := h.q m hm
  refine ⟨⟨h.fits.go s, h.pb.go s hc, fun i hi => ?_, fun i hi => ?_⟩, fun i hi => ?_⟩
  · by_cases e : i = m
    · subst e
      rw [hmm, w5]
      split
      · exact ⟨q, hq⟩
      · exact ⟨q + 1, by show (p.c i).hd.nx + E i = (q + 1) * E i; rw [hq]; grind⟩
    · rw [hne i e]; exact h.q i hi
  · show _ < c + E i
    by_cases e : i = m
    · subst e
      rw [hmm, w5]
      split
      · show (p.c i).hd.nx < c + E i; omega
      · show (p.c i).hd.nx + E i < c + E i; omega
    · rw [hne i e]
      have := h.near i hi
      omega
  · unfold shP
    by_cases e : i = m
    · subst e
      rw [hmm, w5, if_pos rfl]
      split
      · show (p.c i).hd.nx / E i * L i + ((p.c i).done + (c - f)) = _
        omega
      · show ((p.c i).hd.nx + E i) / E i * L i + 0 = _
        have : ((p.c i).hd.nx + E i) / E i = (p.c i).hd.nx / E i + 1 := Int.add_ediv_of_dvd_right ⟨1, by omega⟩ |>.trans (by rw [Int.ediv_self (by omega)])
        rw [this]
        generalize (p.c i).hd.nx / E i = z
        have : (z + 1) * L i = z * L i + L i := by grind
        omega
    · rw [hne i e, if_neg (by omega)]
      omega
theorem sumZ_set {f g : Nat → Int} {n m : Nat} {d : Int} (hm : m < n) (h : ∀ i, i < n → f i = g i + if (m : Int) = i then d else 0) : sumZ f n = sumZ g n + d := by
  have k := sumZ_upd (f := f) (g := g) n hm (fun i hi hne => by rw [h i hi, if_neg (by omega)]; omega)
  have e := h m hm
  rw [if_pos rfl] at e
  omega
/-- A load above the whole: it never rests. -/
theorem SI.busy {n : Nat} {E L R : Nat → Int} {p : Pl} (h : SI n E L R p) (ho : denQ E n < numQ E L n) (hs : sumZ (shP E L p) n = p.now) {m : Nat} {f : Int} (r : Runs n p.J p.now m f) : f = p.now := by
  have hf := (r.f_le h.pb).2.2.2
  by_cases q : f = p.now
  · exact q
  · exfalso
    have hx := r.nxs (c := p.now + 1) (by omega) (by omega)
    have hd : ∀ i, i < n → (p.c i).done = 0 := by
      intro i hi
      have a := (h.fits.past i hi).2
      have b := h.fits.d0 i hi
      have c := hx i hi
      by_cases e : 0 < (p.c i).done
      · have := a e; omega
      · omega
    have hv : ∀ i, i < n → (p.now + 1) * L i ≤ shP E L p i * E i := by
      intro i hi
      obtain ⟨q, hq⟩ := h.q i hi
      have E0 := h.fits.E0 i hi
      unfold shP
      rw [hd i hi, hq, Int.mul_ediv_cancel _ (by omega)]
      have c := hx i hi
      obtain ⟨l1, _, _⟩ := h.fits.may i hi
      have k := Int.mul_le_mul_of_nonneg_right c (show 0 ≤ L i by omega)
      rw [hq] at k
      have : (q * L i + 0) * E i = q * E i * L i := by grind
      rw [this]; exact k
    have k1 := load_ge (x := p.now + 1) n h.fits.E0 hv
    rw [hs] at k1
    have k2 := denQ_pos (E := E) n h.fits.E0
    have k3 := h.fits.now
    have k4 : (p.now + 1) * (denQ E n + 1) ≤ (p.now + 1) * numQ E L n := Int.mul_le_mul_of_nonneg_left (by omega) (by omega)
    have k5 : (p.now + 1) * (denQ E n + 1) = p.now * denQ E n + p.now + denQ E n + 1 := by grind
    omega
/-- What Until tells, and leaves. -/
theorem SI.until {n : Nat} {E L R : Nat → Int} {tick : Int} (ht : tick ≤ 1152921504606846976) : ∀ (k : Nat) (p : Pl), SI n E L R p → p.now ≤ tick → tick - p.now ≤ k →
    SI n E L R (untilN n tick k p).2 ∧ (untilN n tick k p).2.now = tick ∧ Chn p.now (untilN n tick k p).1 tick ∧ (∀ s ∈ (untilN n tick k p).1, 0 ≤ s.t ∧ s.t < n) ∧ (∀ i, i < n → shP E L (untilN n tick k p).2 i = shP E L p i + shL (untilN n tick k p).1 i) ∧
    (denQ E n < numQ E L n → sumZ (shP E L p) n = p.now → sumZ (shP E L (untilN n tick k p).2) n = tick ∧ buL (untilN n tick k p).1 = tick - p.now)
  | 0, p, h, h1, h2 => by
    have e : p.now = tick := by omega
    rw [untilN]
    exact ⟨h, e, h1, fun s hs => (List.not_mem_nil hs).elim, fun i _ => by show shP E L p i = shP E L p i + 0; omega, fun _ q => ⟨by rw [q, e], by show (0 : Int) = _; omega⟩⟩
  | k + 1, p, h, h1, h2 => by
    by_cases q : p.now < tick
    · have far : (n = 0 ∨ ∃ m f, Runs n p.J p.now m f ∧ tick ≤ f) → SI n E L R (p.at tick) ∧ (p.at tick).now = tick ∧ Chn p.now [] tick ∧ (∀ s ∈ ([] : List Sl), 0 ≤ s.t ∧ s.t < n) ∧ (∀ i, i < n → shP E L (p.at tick) i = shP E L p i + shL [] i) ∧ (denQ E n < numQ E L n → sumZ (shP E L p) n = p.now → sumZ (shP E L (p.at tick)) n = tick ∧ buL [] = tick - p.now) := by
        intro hx
        refine ⟨h.at h1 ht, rfl, h1, fun s hs => (List.not_mem_nil hs).elim, fun i _ => by show shP E L p i = shP E L p i + 0; omega, fun ho hs => ?_⟩
        rcases hx with n0 | ⟨m, f, hr, hf⟩
        · subst n0
          exact absurd ho (by show ¬ (1 : Int) < 0; omega)
        · have := h.busy ho hs hr; omega
      by_cases n0 : n = 0
      · rw [until_far q (by subst n0; show tick ≤ farT; unfold farT; omega)]
        exact far (Or.inl n0)
      · obtain ⟨m, f, e, hr⟩ := h.pb.runs (by omega)
        by_cases hf : tick ≤ f
        · rw [until_far q (by rw [e]; exact hf)]
          exact far (Or.inr ⟨m, f, hr, hf⟩)
        · rw [until_step q e (by omega)]
          have hs := cut_str (tick := tick) h.pb hr (by omega)
          generalize hcc : min (endN p.J (p.J m) (f + (p.J m).left) n) tick = c at *
          have hct : c ≤ tick := by omega
          have hfc := hs.lt
          have hpf := (hr.f_le h.pb).2.2.2
          obtain ⟨g1, g2⟩ := h.go hs (by omega)
          obtain ⟨i1, i2, i3, i4, i5, i6⟩ := SI.until ht k (p.go m (c - f) c) g1 hct (by show tick - c ≤ k; omega)
          have hm := hr.lt
          refine ⟨i1, i2, ⟨hpf, hfc, i3⟩, fun s hs' => ?_, fun i hi => ?_, fun ho hsum => ?_⟩
          · rcases List.mem_cons.1 hs' with rfl | q2
            · exact ⟨by show (0 : Int) ≤ (m : Int); omega, by show (m : Int) < n; omega⟩
            · exact i4 s q2
          · rw [i5 i hi, g2 i hi]
            show _ = shP E L p i + ((if (m : Int) = i then c - f else 0) + shL _ i)
            omega
          · have hb := h.busy ho hsum hr
            have h3 := sumZ_set hm g2
            obtain ⟨j1, j2⟩ := i6 ho (by rw [h3, hsum]; show _ = c; omega)
            refine ⟨j1, ?_⟩
            show (c - f) + buL _ = _
            rw [j2]
            show c - f + (tick - c) = _
            omega
    · rw [until_out q]
      have e : p.now = tick := by omega
      exact ⟨h, e, h1, fun s hs => (List.not_mem_nil hs).elim, fun i _ => by show shP E L p i = shP E L p i + 0; omega, fun _ q => ⟨by rw [q, e], by show (0 : Int) = _; omega⟩⟩
/-- At a tick that all periods divide, all that was due is done. -/
theorem SI.whole {n : Nat} {E L R : Nat → Int} {p : Pl} (h : SI n E L R p) (hf : Feas n E L p) {i : Nat} (hi : i < n) (hd : E i ∣ p.now) : shP E L p i = p.now / E i * L i := by
  obtain ⟨t, ht⟩ := hd
  obtain ⟨q, hq⟩ := h.q i hi
  have E0 := h.fits.E0 i hi
  have a := hf.all p.now (Int.le_refl _)
  have b := sumZ_one (f := wrk p E L p.now) n hi (fun j hj => (wrk_ge0 h.fits hj _).1)
  have c := (wrk_ge0 h.fits hi p.now).2
  have d := h.fits.d1 i hi
  have e := h.near i hi
  have g := (h.fits.past i hi).2
  have g0 := h.fits.d0 i hi
  have k1 : ¬ (p.c i).hd.nx + E i ≤ p.now := fun x => by have := c x; omega
  have hqt : q = t := by
    rw [hq, ht] at k1 e
    have r1 : E i * t < (q + 1) * E i := by have : (q + 1) * E i = q * E i + E i := by grind
                                            omega
    have r2 : q * E i < (t + 1) * E i := by have : (t + 1) * E i = E i * t + E i := by grind
                                            omega
    rw [Int.mul_comm] at r1
    have r3 := Int.lt_of_mul_lt_mul_right r1 (by omega)
    have r4 := Int.lt_of_mul_lt_mul_right r2 (by omega)
    omega
  have hnow : (p.c i).hd.nx = p.now := by rw [hq, ht, hqt, Int.mul_comm]
  unfold shP
  rw [hnow]
  have : (p.c i).done = 0 := by
    by_cases z : 0 < (p.c i).done
    · have := g z; omega
    · omega
  omega
theorem SI.start {n : Nat} {T : Nat → Tk} (h : ∀ i, i < n → MayT (T i).e (T i).l) : SI n (fun i => (T i).e) (fun i => (T i).l) (fun i => (T i).r) (newP T) := by
  have hf : Fits n (fun i => (T i).e) (fun i => (T i).l) (fun i => (T i).r) (newP T) := ⟨fun i _ => rfl, fun i _ => rfl, fun i _ => rfl, fun i _ => rfl, fun i hi => h i hi, fun i _ => Int.le_refl _, fun i hi => by have := (h i hi).1; show 0 < (T i).l; omega, Int.le_refl _, fun i _ => Int.le_refl _, fun i hi => ⟨by have := h i hi; obtain ⟨a, b, c⟩ := this; show 0 ≤ 0 + (T i).e; omega, fun q => absurd q (by show ¬ (0 : Int) < 0; omega)⟩⟩
  refine ⟨hf, PB.newP h, fun i _ => ⟨0, by show (0 : Int) = 0 * _; omega⟩, fun i hi => ?_⟩
  obtain ⟨a, b, c⟩ := h i hi
  show (0 : Int) < 0 + (T i).e
  omega
theorem shP_start (T : Nat → Tk) (i : Nat) : shP (fun i => (T i).e) (fun i => (T i).l) (newP T) i = 0 := by
  show (0 : Int) / (T i).e * (T i).l + 0 = 0
  simp
end Go.Proofs.Ytjklaemhfhakhaa
/- What each task has of each of its periods. No program. -/
namespace Go.Proofs.Ytjklaemhfhakhaa

theorem Chn.len : ∀ {a b : Int} {l : List Sl}, Chn a l b → a + l.length ≤ b
  | a, _, [], h => by
    have h : a ≤ _ := h
    simpa using h
  | _, _, s :: l, h => by
    have k := Chn.len h.2.2
    have h1 := h.1
    have h2 := h.2.1
    rw [List.length_cons]
    omega
/-- How long task i is at work in its period q. -/
def wnL (E q i : Int) : List Sl → Int
  | [] => 0
  | s :: r => (if s.t = i ∧ s.f / E = q then s.e - s.f else 0) + wnL E q i r
theorem wnL_app (E q i : Int) : ∀ l r, wnL E q i (l ++ r) = wnL E q i l + wnL E q i r
  | [], r => by show wnL E q i r = 0 + wnL E q i r; omega
  | s :: l, r => by show (if s.t = i ∧ s.f / E = q then s.e - s.f else 0) + wnL E q i (l ++ r) = (if s.t = i ∧ s.f / E = q then s.e - s.f else 0) + wnL E q i l + wnL E q i r; rw [wnL_app E q i l r]; omega
/-- What task i has had of its period q. -/
def wq (E L : Nat → Int) (p : Pl) (i : Nat) (q : Int) : Int :=
  if (q + 1) * E i ≤ (p.c i).hd.nx then L i else if q * E i = (p.c i).hd.nx then (p.c i).done else 0
theorem wq_val {E L : Nat → Int} {p : Pl} {i : Nat} {m : Int} (h : (p.c i).hd.nx = m * E i) (h0 : 0 < E i) (q : Int) : wq E L p i q = if q < m then L i else if q = m then (p.c i).done else 0 := by
  unfold wq
  rw [h]
  have a : (q + 1) * E i ≤ m * E i ↔ q < m := by
    constructor
    · intro k
      have := Int.le_of_mul_le_mul_right k h0
      omega
    · intro k
      exact Int.mul_le_mul_of_nonneg_right (by omega) (by omega)
  have b : q * E i = m * E i ↔ q = m := by
    constructor
    · intro k
      exact Int.eq_of_mul_eq_mul_right (by omega) k
    · intro k
      rw [k]
  simp only [a, b]
theorem div_in {f e q : Int} (he : 0 < e) (h1 : q * e ≤ f) (h2 : f < q * e + e) : f / e = q := by
  have a : q ≤ f / e := (Int.le_ediv_iff_mul_le he).2 h1
  have c : (q + 1) * e = q * e + e := by grind
  have b : f / e < q + 1 := (Int.ediv_lt_iff_lt_mul he).2 (by omega)
  omega
theorem SI.goW {n : Nat} {E L R : Nat → Int} {p : Pl} (h : SI n E L R p) {m : Nat} {f c : Int} (s : Str n p m f c) (hc : c ≤ (p.c m).hd.nx + E m) : c ≤ (f / E m + 1) * E m ∧ ∀ i, i < n → ∀ q, wq E L (p.go m (c - f) c) i q = wq E L p i q + if (m : Int) = i ∧ f / E i = q then c - f else 0 := by
  have hm := s.runs.lt
  have hlt := s.lt
  obtain ⟨w1, w2, w3, w4, w5⟩ := s.work h.fits
  have E0 := h.fits.E0 m hm
  have hne : ∀ i, i ≠ m → (p.go m (c - f) c).c i = p.c i := fun i hi => upd_ne _ _ hi
  have hmm : (p.go m (c - f) c).c m = (p.c m).work (c - f) := upd_at _ _ _
  obtain ⟨q0, hq⟩ := h.q m hm
  have hf : f / E m = q0 := div_in E0 (by omega) (by omega)
  have hd := h.fits.d1 m hm
  refine ⟨by rw [hf]; have : (q0 + 1) * E m = q0 * E m + E m := by grind
             omega, fun i hi q => ?_⟩
  by_cases e : i = m
  · subst e
    rw [wq_val hq E0, hf]
    by_cases z : (p.c i).done + (c - f) < L i
    · have hw : (p.go i (c - f) c).c i = ⟨(p.c i).hd, [], (p.c i).done + (c - f)⟩ := by rw [hmm, w5, if_pos z]
      rw [wq_val (m := q0) (by rw [hw]; exact hq) E0, hw]
      simp only [true_and]
      split
      · rw [if_neg (by omega)]; omega
      · split
        · rename_i k; rw [if_pos k.symm]
        · rename_i k; rw [if_neg (fun x => k x.symm)]; omega
    · have hw : (p.go i (c - f) c).c i = ⟨⟨(p.c i).hd.nx + E i, E i, L i, R i⟩, [], 0⟩ := by rw [hmm, w5, if_neg z]
      rw [wq_val (m := q0 + 1) (by rw [hw]; show (p.c i).hd.nx + E i = (q0 + 1) * E i; rw [hq]; grind) E0, hw]
      simp only [true_and]
      by_cases k1 : q < q0
      · rw [if_pos (by omega), if_pos k1, if_neg (by omega)]; omega
      · by_cases k2 : q = q0
        · rw [if_pos (by omega), if_neg k1, if_pos k2, if_pos k2.symm]; omega
        · have k3 : ¬ q0 = q := fun x => k2 x.symm
          rw [if_neg (show ¬ q < q0 + 1 by omega), if_neg k1, if_neg k2, if_neg k3]
          split <;> omega
  · have : wq E L (p.go m (c - f) c) i q = wq E L p i q := by unfold wq; rw [hne i e]
    rw [this, if_neg (by omega)]
    omega
theorem SI.untilW {n : Nat} {E L R : Nat → Int} {tick : Int} (ht : tick ≤ 1152921504606846976) (hl : Light n E L) : ∀ (k : Nat) (p : Pl), SI n E L R p → Feas n E L p →
    (∀ s ∈ (untilN n tick k p).1, ∀ i : Nat, s.t = i → s.e ≤ (s.f / E i + 1) * E i) ∧ (∀ i, i < n → ∀ q, wq E L (untilN n tick k p).2 i q = wq E L p i q + wnL (E i) q i (untilN n tick k p).1)
  | 0, p, h, hf => ⟨fun s hs => (List.not_mem_nil hs).elim, fun i _ q => by show wq E L p i q = wq E L p i q + 0; omega⟩
  | k + 1, p, h, hf => by
    by_cases q : p.now < tick
    · have far : (∀ s ∈ ([] : List Sl), ∀ i : Nat, s.t = i → s.e ≤ (s.f / E i + 1) * E i) ∧ (∀ i, i < n → ∀ q, wq E L (p.at tick) i q = wq E L p i q + wnL (E i) q i []) := ⟨fun s hs => (List.not_mem_nil hs).elim, fun i _ q => by show wq E L p i q = wq E L p i q + 0; omega⟩
      by_cases n0 : n = 0
      · rw [until_far q (by subst n0; show tick ≤ farT; unfold farT; omega)]
        exact far
      · obtain ⟨m, f, e, hr⟩ := h.pb.runs (by omega)
        by_cases hfa : tick ≤ f
        · rw [until_far q (by rw [e]; exact hfa)]
          exact far
        · rw [until_step q e (by omega)]
          have hs := cut_str (tick := tick) h.pb hr (by omega)
          generalize hcc : min (endN p.J (p.J m) (f + (p.J m).left) n) tick = c at *
          have hct : c ≤ tick := by omega
          obtain ⟨g1, _⟩ := h.go hs (by omega)
          obtain ⟨k1, k2⟩ := hf.go h.fits hl hs
          have hdue : (p.J m).due = (p.c m).hd.nx + E m := by rw [h.fits.jb hr.lt]
          rw [hdue] at k1
          obtain ⟨w1, w2⟩ := h.goW hs k1
          obtain ⟨i1, i2⟩ := SI.untilW ht hl k (p.go m (c - f) c) g1 k2
          refine ⟨fun s hs' i hi => ?_, fun i hi q => ?_⟩
          · rcases List.mem_cons.1 hs' with rfl | q2
            · have hi : (m : Int) = i := hi
              obtain rfl : m = i := by omega
              exact w1
            · exact i1 s q2 i hi
          · rw [i2 i hi q, w2 i hi q]
            show _ = wq E L p i q + ((if (m : Int) = i ∧ f / E i = q then c - f else 0) + wnL _ _ _ _)
            omega
    · rw [until_out q]
      exact ⟨fun s hs => (List.not_mem_nil hs).elim, fun i _ q => by show wq E L p i q = wq E L p i q + 0; omega⟩
theorem SI.nxNow {n : Nat} {E L R : Nat → Int} {p : Pl} (h : SI n E L R p) (hf : Feas n E L p) {i : Nat} (hi : i < n) (hd : E i ∣ p.now) : (p.c i).hd.nx = p.now := by
  obtain ⟨t, ht⟩ := hd
  obtain ⟨q, hq⟩ := h.q i hi
  have E0 := h.fits.E0 i hi
  have a := hf.all p.now (Int.le_refl _)
  have b := sumZ_one (f := wrk p E L p.now) n hi (fun j hj => (wrk_ge0 h.fits hj _).1)
  have c := (wrk_ge0 h.fits hi p.now).2
  have d := h.fits.d1 i hi
  have e := h.near i hi
  have k1 : ¬ (p.c i).hd.nx + E i ≤ p.now := fun x => by have := c x; omega
  have hqt : q = t := by
    rw [hq, ht] at k1 e
    have r1 : E i * t < (q + 1) * E i := by have : (q + 1) * E i = q * E i + E i := by grind
                                            omega
    have r2 : q * E i < (t + 1) * E i := by have : (t + 1) * E i = E i * t + E i := by grind
                                            omega
    rw [Int.mul_comm] at r1
    have r3 := Int.lt_of_mul_lt_mul_right r1 (by omega)
    have r4 := Int.lt_of_mul_lt_mul_right r2 (by omega)
    omega
  rw [hq, ht, hqt, Int.mul_comm]
/-- Whose a tick is; -1: nobody's. -/
def tkA (l : List Sl) (k : Int) : Int := l.foldl (fun v s => if s.f ≤ k ∧ k < s.e then s.t else v) (-1)
theorem tkA_app (l : List Sl) (s : Sl) (k : Int) : tkA (l ++ [s]) k = if s.f ≤ k ∧ k < s.e then s.t else tkA l k := by
  unfold tkA
  rw [List.foldl_append]
  rfl
/-- How many of n ticks are task t's. -/
def cntA (l : List Sl) (t a : Int) : Nat → Int
  | 0 => 0
  | n + 1 => cntA l t a n + if tkA l (a + n) = t then 1 else 0
theorem tkA_out {k : Int} : ∀ (l : List Sl), (∀ s ∈ l, s.e ≤ k) → tkA l k = -1 := by
  intro l
  unfold tkA
  generalize (-1 : Int) = v
  induction l generalizing v with
  | nil => intro _; rfl
  | cons s l ih =>
    intro h
    rw [List.foldl_cons, if_neg (by have := h s (List.mem_cons_self ..); omega)]
    exact ih v (fun x hx => h x (List.mem_cons_of_mem _ hx))
theorem Chn.ends : ∀ {a b : Int} {l : List Sl}, Chn a l b → ∀ s ∈ l, a ≤ s.f ∧ s.f < s.e ∧ s.e ≤ b
  | _, _, [], _, s, hs => (List.not_mem_nil hs).elim
  | a, b, x :: l, h, s, hs => by
    rcases List.mem_cons.1 hs with rfl | k
    · exact ⟨h.1, h.2.1, Chn.le h.2.2⟩
    · obtain ⟨a1, a2, a3⟩ := Chn.ends h.2.2 s k
      have := h.1
      have := h.2.1
      exact ⟨by omega, a2, a3⟩
theorem cntA_app {l : List Sl} {s : Sl} {t a : Int} (ht : 0 ≤ t) (hl : ∀ x ∈ l, x.e ≤ s.f) (hs : s.f < s.e) : ∀ n, cntA (l ++ [s]) t a n = cntA l t a n + if s.t = t then max 0 (min s.e (a + n) - max s.f a) else 0
  | 0 => by
    show (0 : Int) = 0 + _
    split
    · have : max 0 (min s.e (a + ((0 : Nat) : Int)) - max s.f a) = 0 := by omega
      omega
    · rfl
  | n + 1 => by
    have ih := cntA_app ht hl hs (a := a) n
    show cntA (l ++ [s]) t a n + _ = cntA l t a n + _ + _
    rw [ih, tkA_app]
    by_cases k : s.f ≤ a + n ∧ a + n < s.e
    · rw [if_pos k, tkA_out l (fun x hx => by have := hl x hx; omega), if_neg (show ¬ (-1 : Int) = t by omega)]
      split
      · omega
      · omega
    · rw [if_neg k]
      split
      · split <;> omega
      · omega
/-- How often a task has a tick of its period: as long as it is at work in it. -/
theorem cnt_wn {E t : Int} (hE : 0 < E) (ht : 0 ≤ t) {D : List Sl} {b : Int} (hc : Chn 0 D b) (hw : ∀ s ∈ D, s.t = t → s.e ≤ (s.f / E + 1) * E) (q : Int) : ∀ j, j ≤ D.length → cntA (D.take j) t (q * E) E.toNat = wnL E q t (D.take j)
  | 0, _ => by
    show cntA [] t (q * E) E.toNat = 0
    generalize E.toNat = n
    induction n with
    | zero => rfl
    | succ n ih =>
      show cntA [] t (q * E) n + (if (-1 : Int) = t then 1 else 0) = 0
      rw [ih, if_neg (by omega)]
      rfl
  | j + 1, hj => by
    have ih := cnt_wn hE ht hc hw q j (by omega)
    have ht1 : D.take (j + 1) = D.take j ++ [D[j]] := by rw [List.take_add_one, List.getElem?_eq_getElem (by omega)]; rfl
    have hm : D[j] ∈ D := List.getElem_mem _
    have hsplit : Chn 0 (D.take j ++ D.drop j) b := by rw [List.take_append_drop]; exact hc
    have hb : ∀ x ∈ D.take j, x.e ≤ (D[j]).f := by
      rw [List.drop_eq_getElem_cons (by omega)] at hsplit
      have gen : ∀ {a : Int} {l : List Sl} {s : Sl} {r : List Sl}, Chn a (l ++ s :: r) b → ∀ x ∈ l, x.e ≤ s.f := by
        intro a l
        induction l generalizing a with
        | nil => intro s r _ x hx; exact (List.not_mem_nil hx).elim
        | cons y l ih2 =>
          intro s r h x hx
          rcases List.mem_cons.1 hx with rfl | k
          · exact (Chn.ends h.2.2 s (by simp)).1
          · exact ih2 h.2.2 x k
      exact gen hsplit
    obtain ⟨e1, e2, e3⟩ := Chn.ends hc _ hm
    rw [ht1, cntA_app ht hb e2, ih, wnL_app]
    show _ = _ + ((if (D[j]).t = t ∧ (D[j]).f / E = q then (D[j]).e - (D[j]).f else 0) + 0)
    have hw1 := hw _ hm
    generalize D[j] = s at *
    by_cases k : s.t = t
    · have hw2 := hw1 k
      rw [if_pos k]
      have a1 : s.f / E * E ≤ s.f := Int.ediv_mul_le _ (by omega)
      have a2 : s.f < (s.f / E + 1) * E := by
        have := Int.lt_ediv_add_one_mul_self s.f hE
        exact this
      have hEn : ((E.toNat : Nat) : Int) = E := by omega
      rw [hEn]
      generalize s.f / E = z at *
      have b1 : (z + 1) * E = z * E + E := by grind
      by_cases k2 : z = q
      · subst k2
        rw [if_pos ⟨k, rfl⟩]
        omega
      · rw [if_neg (fun x => k2 x.2)]
        rcases Int.lt_or_gt_of_ne k2 with x | x
        · have := Int.mul_le_mul_of_nonneg_right (show z + 1 ≤ q by omega) (show 0 ≤ E by omega)
          omega
        · have := Int.mul_le_mul_of_nonneg_right (show q + 1 ≤ z by omega) (show 0 ≤ E by omega)
          have b2 : (q + 1) * E = q * E + E := by grind
          omega
    · rw [if_neg k, if_neg (fun x => k x.1)]
      omega
end Go.Proofs.Ytjklaemhfhakhaa
/- Until in pieces. No program. -/
namespace Go.Proofs.Ytjklaemhfhakhaa

/-- Whose a tick is, behind what stood there. -/
def tkF (l : List Sl) (v k : Int) : Int := l.foldl (fun v s => if s.f ≤ k ∧ k < s.e then s.t else v) v
theorem tkF_app (a b : List Sl) (v k : Int) : tkF (a ++ b) v k = tkF b (tkF a v k) k := by unfold tkF; rw [List.foldl_append]
theorem tkF_cons (s : Sl) (l : List Sl) (v k : Int) : tkF (s :: l) v k = tkF l (if s.f ≤ k ∧ k < s.e then s.t else v) k := rfl
theorem endN_eq {J J' : Nat → Jb} {r r' : Jb} {z : Int} : ∀ n, (∀ i, i < n → (J i).frm = (J' i).frm ∧ ahB (J i) r = ahB (J' i) r') → endN J r z n = endN J' r' z n
  | 0, _ => rfl
  | n + 1, h => by
    rw [endN, endN, endN_eq n (fun i hi => h i (by omega)), (h n (by omega)).1, (h n (by omega)).2]
theorem upd_upd {α : Type} (f : Nat → α) (k : Nat) (x y : α) : upd (upd f k x) k y = upd f k y := by
  funext i
  unfold upd
  split <;> rfl
/-- Fuel is no matter. -/
theorem until_fuel {n : Nat} {tick : Int} (ht : tick ≤ 1152921504606846976) : ∀ (k k' : Nat) (p : Pl), PB n p → tick - p.now ≤ k → tick - p.now ≤ k' → untilN n tick k p = untilN n tick k' p
  | 0, k', p, _, h1, _ => by rw [until_out (k := 0) (by omega), until_out (by omega)]
  | k + 1, 0, p, _, _, h2 => by rw [until_out (k := 0) (by omega), until_out (by omega)]
  | k + 1, k' + 1, p, h, h1, h2 => by
    by_cases q : p.now < tick
    · by_cases n0 : n = 0
      · have hf : tick ≤ (runN p.J p.now n).2 := by subst n0; show tick ≤ farT; unfold farT; omega
        rw [until_far q hf, until_far q hf]
      · obtain ⟨m, f, e, hr⟩ := h.runs (by omega)
        by_cases hf : tick ≤ f
        · have hf : tick ≤ (runN p.J p.now n).2 := by rw [e]; exact hf
          rw [until_far q hf, until_far q hf]
        · rw [until_step q e (by omega), until_step q e (by omega)]
          have hs := cut_str (tick := tick) h hr (by omega)
          have hlt := hs.lt
          have hpf := (hr.f_le h).2.2.2
          have hc : min (endN p.J (p.J m) (f + (p.J m).left) n) tick ≤ tick := by omega
          generalize min (endN p.J (p.J m) (f + (p.J m).left) n) tick = c at *
          have ih := until_fuel ht k k' (p.go m (c - f) c) (h.go hs (by omega)) (by show tick - c ≤ k; omega) (by show tick - c ≤ k'; omega)
          rw [ih]
    · rw [until_out q, until_out q]
theorem Runs.later' {n : Nat} {p : Pl} {m : Nat} {f x : Int} (h : Runs n p.J p.now m f) (h1 : p.now ≤ x) (h2 : x ≤ f) : Runs n (p.at x).J (p.at x).now m f := by
  have hat := h.at'
  refine ⟨h.lt, ?_, fun i hi => ?_, fun i hi hne e => ?_⟩
  · show f = max (p.J m).frm x
    omega
  · have := h.least i hi
    show f ≤ max (p.J i).frm x
    omega
  · have e : max (p.J i).frm x = f := e
    have hl := h.least i hi
    show ahB (p.J m) (p.J i) = true
    exact h.ahead i hi hne (by omega)
/-- A stretch in two. -/
theorem Str.two {n : Nat} {E L R : Nat → Int} {p : Pl} {m : Nat} {f c x : Int} (hF : Fits n E L R p) (hb : PB n p) (s : Str n p m f c) (h1 : f < x) (h2 : x < c) (hx : x ≤ 1152921504606846976) :
    let p1 := p.go m (x - f) x
    PB n p1 ∧ runN p1.J p1.now n = (p1.J m, x) ∧ endN p1.J (p1.J m) (x + (p1.J m).left) n = endN p.J (p.J m) (f + (p.J m).left) n ∧ p1.go m (c - x) c = p.go m (c - f) c ∧ (p1.J m).due = (p.J m).due := by
  intro p1
  have s1 : Str n p m f x := ⟨s.runs, h1, by have := s.le; omega⟩
  have hb1 : PB n p1 := hb.go s1 hx
  have hm := s.runs.lt
  obtain ⟨w1, w2, w3, w4, w5⟩ := s1.work hF
  obtain ⟨z1, _, _, _, _⟩ := s.work hF
  rw [if_pos (by omega)] at w5
  have htl := hF.tl m hm
  have hcm : p1.c m = ⟨(p.c m).hd, [], (p.c m).done + (x - f)⟩ := (upd_at _ _ _).trans w5
  have hne : ∀ i, i ≠ m → p1.c i = p.c i := fun i hi => upd_ne _ _ hi
  have hJm : p1.J m = ⟨m, (p.c m).hd.nx, (p.c m).hd.nx + (p.c m).hd.e, (p.c m).hd.l - ((p.c m).done + (x - f)), (p.c m).hd.r⟩ := by
    show (p1.c m).jb m = _
    rw [hcm]
    rfl
  have hJm0 : p.J m = ⟨m, (p.c m).hd.nx, (p.c m).hd.nx + (p.c m).hd.e, (p.c m).hd.l - (p.c m).done, (p.c m).hd.r⟩ := rfl
  have hJ : ∀ i, i ≠ m → p1.J i = p.J i := fun i hi => by show (p1.c i).jb i = _; rw [hne i hi]; rfl
  have hah : ∀ i, i < n → (p1.J i).frm = (p.J i).frm ∧ ahB (p1.J i) (p1.J m) = ahB (p.J i) (p.J m) := by
    intro i _
    by_cases e : i = m
    · subst e
      rw [ah_irrefl, ah_irrefl, hJm]
      exact ⟨rfl, rfl⟩
    · rw [hJ i e, hJm, hJm0]
      exact ⟨rfl, rfl⟩
  have hend : endN p1.J (p1.J m) (x + (p1.J m).left) n = endN p.J (p.J m) (f + (p.J m).left) n := by
    have e1 : x + (p1.J m).left = f + (p.J m).left := by rw [hJm, hJm0]; show x + ((p.c m).hd.l - ((p.c m).done + (x - f))) = f + ((p.c m).hd.l - (p.c m).done); omega
    rw [e1]
    exact endN_eq n hah
  refine ⟨hb1, ?_, hend, ?_, by rw [hJm, hJm0]⟩
  · refine Runs.eq ⟨hm, ?_, fun i hi => ?_, fun i hi hi2 e => ?_⟩ hb1
    · rw [hJm]; show x = max (p.c m).hd.nx x; omega
    · show x ≤ max _ x; omega
    · have e : max (p1.J i).frm x = x := e
      rcases ah_total (p1.named n) hm hi (fun q => hi2 q.symm) with k | k
      · exact k
      · rw [(hah i hi).2] at k
        have a := endN_at («to» := f + (p.J m).left) n i hi k
        have b := s.le
        have d := (hah i hi).1
        omega
  · show (⟨c, upd p1.c m ((p1.c m).work (c - x))⟩ : Pl) = ⟨c, upd p.c m ((p.c m).work (c - f))⟩
    have e1 : (p1.c m).work (c - x) = (p.c m).work (c - f) := by
      rw [hcm, work_of rfl, work_of htl]
      show (if (p.c m).done + (x - f) + (c - x) < (p.c m).hd.l then _ else _) = _
      have : (p.c m).done + (x - f) + (c - x) = (p.c m).done + (c - f) := by omega
      rw [this]
    rw [e1]
    show (⟨c, upd (upd p.c m _) m _⟩ : Pl) = _
    rw [upd_upd]
/-- Until a tick, then on: as if at once. -/
theorem until_split {n : Nat} {E L R : Nat → Int} {T x : Int} (hT : T ≤ 1152921504606846976) (hx : x ≤ T) : ∀ (k : Nat) (p : Pl), Fits n E L R p → PB n p → p.now ≤ x → T - p.now ≤ k →
    (untilN n T k (untilN n x k p).2).2 = (untilN n T k p).2 ∧ ∀ v y, tkF (untilN n T k (untilN n x k p).2).1 (tkF (untilN n x k p).1 v y) y = tkF (untilN n T k p).1 v y
  | 0, p, _, _, h1, h2 => by
    rw [until_out (tick := x) (k := 0) (by omega)]
    exact ⟨rfl, fun v y => rfl⟩
  | k + 1, p, hF, hb, h1, h2 => by
    by_cases q : p.now < x
    · by_cases n0 : n = 0
      · have hf : ∀ t : Int, t ≤ 1152921504606846976 → t ≤ (runN p.J p.now n).2 := fun t ht => by subst n0; show t ≤ farT; unfold farT; omega
        rw [until_far q (hf x (by omega)), until_far (by omega) (hf T hT)]
        by_cases q2 : x < T
        · rw [until_far (p := p.at x) q2 (by subst n0; show T ≤ farT; unfold farT; omega)]
          exact ⟨rfl, fun v y => rfl⟩
        · obtain rfl : x = T := by omega
          rw [until_out (p := p.at x) (by show ¬ x < x; omega)]
          exact ⟨rfl, fun v y => rfl⟩
      · obtain ⟨m, f, e, hr⟩ := hb.runs (by omega)
        have hpf := (hr.f_le hb).2.2.2
        have hnow := hb.now
        by_cases hxf : x ≤ f
        · rw [until_far q (by rw [e]; exact hxf)]
          have hr2 := hr.later' (x := x) (by omega) hxf
          have hb2 := hb.at («to» := x) (by omega) (by omega)
          have e2 := hr2.eq hb2
          by_cases q2 : x < T
          · by_cases hTf : T ≤ f
            · rw [until_far (p := p.at x) q2 (by rw [e2]; exact hTf), until_far (by omega) (by rw [e]; exact hTf)]
              exact ⟨rfl, fun v y => rfl⟩
            · rw [until_step (p := p.at x) q2 e2 (by omega), until_step (by omega) e (by omega)]
              exact ⟨rfl, fun v y => rfl⟩
          · obtain rfl : x = T := by omega
            rw [until_out (p := p.at x) (by show ¬ x < x; omega), until_far (by omega) (by rw [e]; exact hxf)]
            exact ⟨rfl, fun v y => rfl⟩
        · have hs0 := cut_str (tick := T) hb hr (by omega)
          have hend := (hr.ends hb).1
          rw [until_step (tick := T) (by omega) e (by omega), until_step (tick := x) q e (by omega)]
          by_cases hc : endN p.J (p.J m) (f + (p.J m).left) n ≤ x
          · rw [show min (endN p.J (p.J m) (f + (p.J m).left) n) x = endN p.J (p.J m) (f + (p.J m).left) n by omega, show min (endN p.J (p.J m) (f + (p.J m).left) n) T = endN p.J (p.J m) (f + (p.J m).left) n by omega]
            rw [show min (endN p.J (p.J m) (f + (p.J m).left) n) T = endN p.J (p.J m) (f + (p.J m).left) n by omega] at hs0
            generalize endN p.J (p.J m) (f + (p.J m).left) n = c at *
            have hG := hF.go hs0
            have hB := hb.go hs0 (by omega)
            obtain ⟨i1, i2⟩ := until_split hT hx k (p.go m (c - f) c) hG hB hc (by show T - c ≤ k; omega)
            have hfu : untilN n T (k + 1) (untilN n x k (p.go m (c - f) c)).2 = untilN n T k (untilN n x k (p.go m (c - f) c)).2 := by
              by_cases z : (untilN n x k (p.go m (c - f) c)).2.now < T
              · have hpbx : PB n (untilN n x k (p.go m (c - f) c)).2 ∧ c ≤ (untilN n x k (p.go m (c - f) c)).2.now := by
                  have hI := (until_ind (I := fun p => PB n p ∧ c ≤ p.now) (G := fun _ => True) (tick := x) (by omega) (fun p h => h.1) (fun p m f c' h hs hc' => ⟨trivial, h.1.go hs (by omega), by have := hs.lt; have := (hs.runs.f_le h.1).2.2.2; have := h.2; show c ≤ c'; omega⟩) (fun p h hq _ => ⟨h.1.at (by have := h.1.now; omega) (by omega), by have := h.2; show c ≤ x; omega⟩) k (p.go m (c - f) c) ⟨hB, Int.le_refl _⟩).2
                  exact hI
                exact until_fuel hT (k + 1) k _ hpbx.1 (by have := hpbx.2; omega) (by have := hpbx.2; omega)
              · rw [until_out z, until_out z]
            refine ⟨?_, fun v y => ?_⟩
            · show (untilN n T (k + 1) (untilN n x k (p.go m (c - f) c)).2).2 = (untilN n T k (p.go m (c - f) c)).2
              rw [hfu]; exact i1
            · show tkF (untilN n T (k + 1) (untilN n x k (p.go m (c - f) c)).2).1 (tkF (untilN n x k (p.go m (c - f) c)).1 _ y) y = tkF (untilN n T k (p.go m (c - f) c)).1 _ y
              rw [hfu]; exact i2 _ y
          · rw [show min (endN p.J (p.J m) (f + (p.J m).left) n) x = x by omega]
            have hcx : x ≤ min (endN p.J (p.J m) (f + (p.J m).left) n) T := by omega
            have hcT : min (endN p.J (p.J m) (f + (p.J m).left) n) T ≤ T := by omega
            have hfx : f < x := by omega
            rw [until_out (p := p.go m (x - f) x) (by show ¬ x < x; omega)]
            show (untilN n T (k + 1) (p.go m (x - f) x)).2 = _ ∧ ∀ v y, tkF (untilN n T (k + 1) (p.go m (x - f) x)).1 (tkF [⟨m, f, x, _⟩] v y) y = _
            by_cases hxc : x < min (endN p.J (p.J m) (f + (p.J m).left) n) T
            · obtain ⟨t1, t2, t3, t4, t5⟩ := Str.two hF hb hs0 hfx hxc (by omega)
              rw [until_step (p := p.go m (x - f) x) (by show x < T; omega) t2 (by omega), t3]
              generalize min (endN p.J (p.J m) (f + (p.J m).left) n) T = c at *
              rw [t4]
              refine ⟨rfl, fun v y => ?_⟩
              have hv : (if x ≤ y ∧ y < c then (m : Int) else if f ≤ y ∧ y < x then (m : Int) else v) = if f ≤ y ∧ y < c then (m : Int) else v := by
                by_cases y1 : f ≤ y ∧ y < c
                · rw [if_pos y1]
                  split
                  · rfl
                  · rw [if_pos (by omega)]
                · rw [if_neg y1, if_neg (by omega), if_neg (by omega)]
              exact congrArg (fun z => tkF (untilN n T k (p.go m (c - f) c)).1 z y) hv
            · have hxT : x = T := by omega
              subst hxT
              rw [show min (endN p.J (p.J m) (f + (p.J m).left) n) x = x by omega]
              rw [until_out (p := p.go m (x - f) x) (by show ¬ x < x; omega), until_out (p := p.go m (x - f) x) (by show ¬ x < x; omega)]
              exact ⟨rfl, fun v y => rfl⟩
    · rw [until_out q]
      exact ⟨rfl, fun v y => rfl⟩
end Go.Proofs.Ytjklaemhfhakhaa

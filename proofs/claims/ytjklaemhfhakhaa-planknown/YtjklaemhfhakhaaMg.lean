/- Shares: how long each task has been at work. No program. -/
import Derived.Test.YtjklaemhfhakhaaMf
namespace Go.Proofs.Ytjklaemhfhakhaa

/-- How long a task is at work in these stretches. -/
def shL : List Sl → Int → Int
  | [], _ => 0
  | s :: r, i => (if s.t = i then s.e - s.f else 0) + shL r i
/-- How long any is. -/
def buL : List Sl → Int
  | [] => 0
  | s :: r => (s.e - s.f) + buL r
/-- Stretches one behind the other. -/
def Chn (a : Int) : List Sl → Int → Prop
  | [], b => a ≤ b
  | s :: r, b => a ≤ s.f ∧ s.f < s.e ∧ Chn s.e r b
theorem shL_app (i : Int) : ∀ l r, shL (l ++ r) i = shL l i + shL r i
  | [], r => by show shL r i = 0 + shL r i; omega
  | s :: l, r => by show (if s.t = i then s.e - s.f else 0) + shL (l ++ r) i = (if s.t = i then s.e - s.f else 0) + shL l i + shL r i; rw [shL_app i l r]; omega
theorem buL_app : ∀ l r, buL (l ++ r) = buL l + buL r
  | [], r => by show buL r = 0 + buL r; omega
  | s :: l, r => by show (s.e - s.f) + buL (l ++ r) = (s.e - s.f) + buL l + buL r; rw [buL_app l r]; omega
theorem Chn.app {b c : Int} {r : List Sl} (k : Chn b r c) : ∀ {a : Int} {l : List Sl}, Chn a l b → Chn a (l ++ r) c
  | _, [], h => by
    cases r with
    | nil => exact Int.le_trans h k
    | cons s r => exact ⟨Int.le_trans h k.1, k.2.1, k.2.2⟩
  | _, _ :: _, h => ⟨h.1, h.2.1, Chn.app k h.2.2⟩
theorem Chn.le : ∀ {a b : Int} {l : List Sl}, Chn a l b → a ≤ b
  | _, _, [], h => h
  | _, _, _ :: _, h => by
    have := Chn.le h.2.2
    have := h.1
    have := h.2.1
    omega
/-- A plan whose releases are those of its tasks. -/
structure SI (n : Nat) (E L R : Nat → Int) (p : Pl) : Prop where
  fits : Fits n E L R p
  pb : PB n p
  q : ∀ i, i < n → ∃ q : Int, (p.c i).hd.nx = q * E i
  near : ∀ i, i < n → (p.c i).hd.nx < p.now + E i
/-- How long a task has been at work. -/
def shP (E L : Nat → Int) (p : Pl) (i : Nat) : Int := (p.c i).hd.nx / E i * L i + (p.c i).done
theorem SI.at {n : Nat} {E L R : Nat → Int} {p : Pl} (h : SI n E L R p) {c : Int} (h1 : p.now ≤ c) (h2 : c ≤ 1152921504606846976) : SI n E L R (p.at c) := by
  have := h.pb.now
  refine ⟨h.fits.idle h1, h.pb.at (by omega) h2, h.q, fun i hi => ?_⟩
  have := h.near i hi
  show (p.c i).hd.nx < c + E i
  omega
theorem SI.go {n : Nat} {E L R : Nat → Int} {p : Pl} (h : SI n E L R p) {m : Nat} {f c : Int} (s : Str n p m f c) (hc : c ≤ 1152921504606846976) : SI n E L R (p.go m (c - f) c) ∧ ∀ i, i < n → shP E L (p.go m (c - f) c) i = shP E L p i + if (m : Int) = i then c - f else 0 := by
  have hm := s.runs.lt
  have hlt := s.lt
  obtain ⟨w1, w2, w3, w4, w5⟩ := s.work h.fits
  have E0 := h.fits.E0 m hm
  have hne : ∀ i, i ≠ m → (p.go m (c - f) c).c i = p.c i := fun i hi => upd_ne _ _ hi
  have hmm : (p.go m (c - f) c).c m = (p.c m).work (c - f) := upd_at _ _ _
  obtain ⟨q, hq⟩ := h.q m hm
  refine ⟨⟨h.fits.go s, h.pb.go s hc, fun i hi => ?_, fun i hi => ?_⟩, fun i hi => ?_⟩
  · by_cases e : i = m
    · subst e
      rw [hmm, w5]
      split
      · exact ⟨q, hq⟩
      · exact ⟨q + 1, by show (p.c i).hd.nx + E i = (q + 1) * E i; rw [hq]; grind⟩
    · rw [hne i e]; exact h.q i hi
  · show _ < c + E i
    by_cases e : i = m
    · subst e
      rw [hmm, w5]
      split
      · show (p.c i).hd.nx < c + E i; omega
      · show (p.c i).hd.nx + E i < c + E i; omega
    · rw [hne i e]
      have := h.near i hi
      omega
  · unfold shP
    by_cases e : i = m
    · subst e
      rw [hmm, w5, if_pos rfl]
      split
      · show (p.c i).hd.nx / E i * L i + ((p.c i).done + (c - f)) = _
        omega
      · show ((p.c i).hd.nx + E i) / E i * L i + 0 = _
        have : ((p.c i).hd.nx + E i) / E i = (p.c i).hd.nx / E i + 1 := Int.add_ediv_of_dvd_right ⟨1, by omega⟩ |>.trans (by rw [Int.ediv_self (by omega)])
        rw [this]
        generalize (p.c i).hd.nx / E i = z
        have : (z + 1) * L i = z * L i + L i := by grind
        omega
    · rw [hne i e, if_neg (by omega)]
      omega
theorem sumZ_set {f g : Nat → Int} {n m : Nat} {d : Int} (hm : m < n) (h : ∀ i, i < n → f i = g i + if (m : Int) = i then d else 0) : sumZ f n = sumZ g n + d := by
  have k := sumZ_upd (f := f) (g := g) n hm (fun i hi hne => by rw [h i hi, if_neg (by omega)]; omega)
  have e := h m hm
  rw [if_pos rfl] at e
  omega
/-- A load above the whole: it never rests. -/
theorem SI.busy {n : Nat} {E L R : Nat → Int} {p : Pl} (h : SI n E L R p) (ho : denQ E n < numQ E L n) (hs : sumZ (shP E L p) n = p.now) {m : Nat} {f : Int} (r : Runs n p.J p.now m f) : f = p.now := by
  have hf := (r.f_le h.pb).2.2.2
  by_cases q : f = p.now
  · exact q
  · exfalso
    have hx := r.nxs (c := p.now + 1) (by omega) (by omega)
    have hd : ∀ i, i < n → (p.c i).done = 0 := by
      intro i hi
      have a := (h.fits.past i hi).2
      have b := h.fits.d0 i hi
      have c := hx i hi
      by_cases e : 0 < (p.c i).done
      · have := a e; omega
      · omega
    have hv : ∀ i, i < n → (p.now + 1) * L i ≤ shP E L p i * E i := by
      intro i hi
      obtain ⟨q, hq⟩ := h.q i hi
      have E0 := h.fits.E0 i hi
      unfold shP
      rw [hd i hi, hq, Int.mul_ediv_cancel _ (by omega)]
      have c := hx i hi
      obtain ⟨l1, _, _⟩ := h.fits.may i hi
      have k := Int.mul_le_mul_of_nonneg_right c (show 0 ≤ L i by omega)
      rw [hq] at k
      have : (q * L i + 0) * E i = q * E i * L i := by grind
      rw [this]; exact k
    have k1 := load_ge (x := p.now + 1) n h.fits.E0 hv
    rw [hs] at k1
    have k2 := denQ_pos (E := E) n h.fits.E0
    have k3 := h.fits.now
    have k4 : (p.now + 1) * (denQ E n + 1) ≤ (p.now + 1) * numQ E L n := Int.mul_le_mul_of_nonneg_left (by omega) (by omega)
    have k5 : (p.now + 1) * (denQ E n + 1) = p.now * denQ E n + p.now + denQ E n + 1 := by grind
    omega
/-- What Until tells, and leaves. -/
theorem SI.until {n : Nat} {E L R : Nat → Int} {tick : Int} (ht : tick ≤ 1152921504606846976) : ∀ (k : Nat) (p : Pl), SI n E L R p → p.now ≤ tick → tick - p.now ≤ k →
    SI n E L R (untilN n tick k p).2 ∧ (untilN n tick k p).2.now = tick ∧ Chn p.now (untilN n tick k p).1 tick ∧ (∀ s ∈ (untilN n tick k p).1, 0 ≤ s.t ∧ s.t < n) ∧ (∀ i, i < n → shP E L (untilN n tick k p).2 i = shP E L p i + shL (untilN n tick k p).1 i) ∧
    (denQ E n < numQ E L n → sumZ (shP E L p) n = p.now → sumZ (shP E L (untilN n tick k p).2) n = tick ∧ buL (untilN n tick k p).1 = tick - p.now)
  | 0, p, h, h1, h2 => by
    have e : p.now = tick := by omega
    rw [untilN]
    exact ⟨h, e, h1, fun s hs => (List.not_mem_nil hs).elim, fun i _ => by show shP E L p i = shP E L p i + 0; omega, fun _ q => ⟨by rw [q, e], by show (0 : Int) = _; omega⟩⟩
  | k + 1, p, h, h1, h2 => by
    by_cases q : p.now < tick
    · have far : (n = 0 ∨ ∃ m f, Runs n p.J p.now m f ∧ tick ≤ f) → SI n E L R (p.at tick) ∧ (p.at tick).now = tick ∧ Chn p.now [] tick ∧ (∀ s ∈ ([] : List Sl), 0 ≤ s.t ∧ s.t < n) ∧ (∀ i, i < n → shP E L (p.at tick) i = shP E L p i + shL [] i) ∧ (denQ E n < numQ E L n → sumZ (shP E L p) n = p.now → sumZ (shP E L (p.at tick)) n = tick ∧ buL [] = tick - p.now) := by
        intro hx
        refine ⟨h.at h1 ht, rfl, h1, fun s hs => (List.not_mem_nil hs).elim, fun i _ => by show shP E L p i = shP E L p i + 0; omega, fun ho hs => ?_⟩
        rcases hx with n0 | ⟨m, f, hr, hf⟩
        · subst n0
          exact absurd ho (by show ¬ (1 : Int) < 0; omega)
        · have := h.busy ho hs hr; omega
      by_cases n0 : n = 0
      · rw [until_far q (by subst n0; show tick ≤ farT; unfold farT; omega)]
        exact far (Or.inl n0)
      · obtain ⟨m, f, e, hr⟩ := h.pb.runs (by omega)
        by_cases hf : tick ≤ f
        · rw [until_far q (by rw [e]; exact hf)]
          exact far (Or.inr ⟨m, f, hr, hf⟩)
        · rw [until_step q e (by omega)]
          have hs := cut_str (tick := tick) h.pb hr (by omega)
          generalize hcc : min (endN p.J (p.J m) (f + (p.J m).left) n) tick = c at *
          have hct : c ≤ tick := by omega
          have hfc := hs.lt
          have hpf := (hr.f_le h.pb).2.2.2
          obtain ⟨g1, g2⟩ := h.go hs (by omega)
          obtain ⟨i1, i2, i3, i4, i5, i6⟩ := SI.until ht k (p.go m (c - f) c) g1 hct (by show tick - c ≤ k; omega)
          have hm := hr.lt
          refine ⟨i1, i2, ⟨hpf, hfc, i3⟩, fun s hs' => ?_, fun i hi => ?_, fun ho hsum => ?_⟩
          · rcases List.mem_cons.1 hs' with rfl | q2
            · exact ⟨by show (0 : Int) ≤ (m : Int); omega, by show (m : Int) < n; omega⟩
            · exact i4 s q2
          · rw [i5 i hi, g2 i hi]
            show _ = shP E L p i + ((if (m : Int) = i then c - f else 0) + shL _ i)
            omega
          · have hb := h.busy ho hsum hr
            have h3 := sumZ_set hm g2
            obtain ⟨j1, j2⟩ := i6 ho (by rw [h3, hsum]; show _ = c; omega)
            refine ⟨j1, ?_⟩
            show (c - f) + buL _ = _
            rw [j2]
            show c - f + (tick - c) = _
            omega
    · rw [until_out q]
      have e : p.now = tick := by omega
      exact ⟨h, e, h1, fun s hs => (List.not_mem_nil hs).elim, fun i _ => by show shP E L p i = shP E L p i + 0; omega, fun _ q => ⟨by rw [q, e], by show (0 : Int) = _; omega⟩⟩
/-- At a tick that all periods divide, all that was due is done. -/
theorem SI.whole {n : Nat} {E L R : Nat → Int} {p : Pl} (h : SI n E L R p) (hf : Feas n E L p) {i : Nat} (hi : i < n) (hd : E i ∣ p.now) : shP E L p i = p.now / E i * L i := by
  obtain ⟨t, ht⟩ := hd
  obtain ⟨q, hq⟩ := h.q i hi
  have E0 := h.fits.E0 i hi
  have a := hf.all p.now (Int.le_refl _)
  have b := sumZ_one (f := wrk p E L p.now) n hi (fun j hj => (wrk_ge0 h.fits hj _).1)
  have c := (wrk_ge0 h.fits hi p.now).2
  have d := h.fits.d1 i hi
  have e := h.near i hi
  have g := (h.fits.past i hi).2
  have g0 := h.fits.d0 i hi
  have k1 : ¬ (p.c i).hd.nx + E i ≤ p.now := fun x => by have := c x; omega
  have hqt : q = t := by
    rw [hq, ht] at k1 e
    have r1 : E i * t < (q + 1) * E i := by have : (q + 1) * E i = q * E i + E i := by grind
                                            omega
    have r2 : q * E i < (t + 1) * E i := by have : (t + 1) * E i = E i * t + E i := by grind
                                            omega
    rw [Int.mul_comm] at r1
    have r3 := Int.lt_of_mul_lt_mul_right r1 (by omega)
    have r4 := Int.lt_of_mul_lt_mul_right r2 (by omega)
    omega
  have hnow : (p.c i).hd.nx = p.now := by rw [hq, ht, hqt, Int.mul_comm]
  unfold shP
  rw [hnow]
  have : (p.c i).done = 0 := by
    by_cases z : 0 < (p.c i).done
    · have := g z; omega
    · omega
  omega
theorem SI.start {n : Nat} {T : Nat → Tk} (h : ∀ i, i < n → MayT (T i).e (T i).l) : SI n (fun i => (T i).e) (fun i => (T i).l) (fun i => (T i).r) (newP T) := by
  have hf : Fits n (fun i => (T i).e) (fun i => (T i).l) (fun i => (T i).r) (newP T) := ⟨fun i _ => rfl, fun i _ => rfl, fun i _ => rfl, fun i _ => rfl, fun i hi => h i hi, fun i _ => Int.le_refl _, fun i hi => by have := (h i hi).1; show 0 < (T i).l; omega, Int.le_refl _, fun i _ => Int.le_refl _, fun i hi => ⟨by have := h i hi; obtain ⟨a, b, c⟩ := this; show 0 ≤ 0 + (T i).e; omega, fun q => absurd q (by show ¬ (0 : Int) < 0; omega)⟩⟩
  refine ⟨hf, PB.newP h, fun i _ => ⟨0, by show (0 : Int) = 0 * _; omega⟩, fun i hi => ?_⟩
  obtain ⟨a, b, c⟩ := h i hi
  show (0 : Int) < 0 + (T i).e
  omega
theorem shP_start (T : Nat → Tk) (i : Nat) : shP (fun i => (T i).e) (fun i => (T i).l) (newP T) i = 0 := by
  show (0 : Int) / (T i).e * (T i).l + 0 = 0
  simp
end Go.Proofs.Ytjklaemhfhakhaa

/- What each task has of each of its periods. No program. -/
import Derived.Test.YtjklaemhfhakhaaMg
namespace Go.Proofs.Ytjklaemhfhakhaa

theorem Chn.len : ∀ {a b : Int} {l : List Sl}, Chn a l b → a + l.length ≤ b
  | a, _, [], h => by
    have h : a ≤ _ := h
    simpa using h
  | _, _, s :: l, h => by
    have k := Chn.len h.2.2
    have h1 := h.1
    have h2 := h.2.1
    rw [List.length_cons]
    omega
/-- How long task i is at work in its period q. -/
def wnL (E q i : Int) : List Sl → Int
  | [] => 0
  | s :: r => (if s.t = i ∧ s.f / E = q then s.e - s.f else 0) + wnL E q i r
theorem wnL_app (E q i : Int) : ∀ l r, wnL E q i (l ++ r) = wnL E q i l + wnL E q i r
  | [], r => by show wnL E q i r = 0 + wnL E q i r; omega
  | s :: l, r => by show (if s.t = i ∧ s.f / E = q then s.e - s.f else 0) + wnL E q i (l ++ r) = (if s.t = i ∧ s.f / E = q then s.e - s.f else 0) + wnL E q i l + wnL E q i r; rw [wnL_app E q i l r]; omega
/-- What task i has had of its period q. -/
def wq (E L : Nat → Int) (p : Pl) (i : Nat) (q : Int) : Int :=
  if (q + 1) * E i ≤ (p.c i).hd.nx then L i else if q * E i = (p.c i).hd.nx then (p.c i).done else 0
theorem wq_val {E L : Nat → Int} {p : Pl} {i : Nat} {m : Int} (h : (p.c i).hd.nx = m * E i) (h0 : 0 < E i) (q : Int) : wq E L p i q = if q < m then L i else if q = m then (p.c i).done else 0 := by
  unfold wq
  rw [h]
  have a : (q + 1) * E i ≤ m * E i ↔ q < m := by
    constructor
    · intro k
      have := Int.le_of_mul_le_mul_right k h0
      omega
    · intro k
      exact Int.mul_le_mul_of_nonneg_right (by omega) (by omega)
  have b : q * E i = m * E i ↔ q = m := by
    constructor
    · intro k
      exact Int.eq_of_mul_eq_mul_right (by omega) k
    · intro k
      rw [k]
  simp only [a, b]
theorem div_in {f e q : Int} (he : 0 < e) (h1 : q * e ≤ f) (h2 : f < q * e + e) : f / e = q := by
  have a : q ≤ f / e := (Int.le_ediv_iff_mul_le he).2 h1
  have c : (q + 1) * e = q * e + e := by grind
  have b : f / e < q + 1 := (Int.ediv_lt_iff_lt_mul he).2 (by omega)
  omega
theorem SI.goW {n : Nat} {E L R : Nat → Int} {p : Pl} (h : SI n E L R p) {m : Nat} {f c : Int} (s : Str n p m f c) (hc : c ≤ (p.c m).hd.nx + E m) : c ≤ (f / E m + 1) * E m ∧ ∀ i, i < n → ∀ q, wq E L (p.go m (c - f) c) i q = wq E L p i q + if (m : Int) = i ∧ f / E i = q then c - f else 0 := by
  have hm := s.runs.lt
  have hlt := s.lt
  obtain ⟨w1, w2, w3, w4, w5⟩ := s.work h.fits
  have E0 := h.fits.E0 m hm
  have hne : ∀ i, i ≠ m → (p.go m (c - f) c).c i = p.c i := fun i hi => upd_ne _ _ hi
  have hmm : (p.go m (c - f) c).c m = (p.c m).work (c - f) := upd_at _ _ _
  obtain ⟨q0, hq⟩ := h.q m hm
  have hf : f / E m = q0 := div_in E0 (by omega) (by omega)
  have hd := h.fits.d1 m hm
  refine ⟨by rw [hf]; have : (q0 + 1) * E m = q0 * E m + E m := by grind
             omega, fun i hi q => ?_⟩
  by_cases e : i = m
  · subst e
    rw [wq_val hq E0, hf]
    by_cases z : (p.c i).done + (c - f) < L i
    · have hw : (p.go i (c - f) c).c i = ⟨(p.c i).hd, [], (p.c i).done + (c - f)⟩ := by rw [hmm, w5, if_pos z]
      rw [wq_val (m := q0) (by rw [hw]; exact hq) E0, hw]
      simp only [true_and]
      split
      · rw [if_neg (by omega)]; omega
      · split
        · rename_i k; rw [if_pos k.symm]
        · rename_i k; rw [if_neg (fun x => k x.symm)]; omega
    · have hw : (p.go i (c - f) c).c i = ⟨⟨(p.c i).hd.nx + E i, E i, L i, R i⟩, [], 0⟩ := by rw [hmm, w5, if_neg z]
      rw [wq_val (m := q0 + 1) (by rw [hw]; show (p.c i).hd.nx + E i = (q0 + 1) * E i; rw [hq]; grind) E0, hw]
      simp only [true_and]
      by_cases k1 : q < q0
      · rw [if_pos (by omega), if_pos k1, if_neg (by omega)]; omega
      · by_cases k2 : q = q0
        · rw [if_pos (by omega), if_neg k1, if_pos k2, if_pos k2.symm]; omega
        · have k3 : ¬ q0 = q := fun x => k2 x.symm
          rw [if_neg (show ¬ q < q0 + 1 by omega), if_neg k1, if_neg k2, if_neg k3]
          split <;> omega
  · have : wq E L (p.go m (c - f) c) i q = wq E L p i q := by unfold wq; rw [hne i e]
    rw [this, if_neg (by omega)]
    omega
theorem SI.untilW {n : Nat} {E L R : Nat → Int} {tick : Int} (ht : tick ≤ 1152921504606846976) (hl : Light n E L) : ∀ (k : Nat) (p : Pl), SI n E L R p → Feas n E L p →
    (∀ s ∈ (untilN n tick k p).1, ∀ i : Nat, s.t = i → s.e ≤ (s.f / E i + 1) * E i) ∧ (∀ i, i < n → ∀ q, wq E L (untilN n tick k p).2 i q = wq E L p i q + wnL (E i) q i (untilN n tick k p).1)
  | 0, p, h, hf => ⟨fun s hs => (List.not_mem_nil hs).elim, fun i _ q => by show wq E L p i q = wq E L p i q + 0; omega⟩
  | k + 1, p, h, hf => by
    by_cases q : p.now < tick
    · have far : (∀ s ∈ ([] : List Sl), ∀ i : Nat, s.t = i → s.e ≤ (s.f / E i + 1) * E i) ∧ (∀ i, i < n → ∀ q, wq E L (p.at tick) i q = wq E L p i q + wnL (E i) q i []) := ⟨fun s hs => (List.not_mem_nil hs).elim, fun i _ q => by show wq E L p i q = wq E L p i q + 0; omega⟩
      by_cases n0 : n = 0
      · rw [until_far q (by subst n0; show tick ≤ farT; unfold farT; omega)]
        exact far
      · obtain ⟨m, f, e, hr⟩ := h.pb.runs (by omega)
        by_cases hfa : tick ≤ f
        · rw [until_far q (by rw [e]; exact hfa)]
          exact far
        · rw [until_step q e (by omega)]
          have hs := cut_str (tick := tick) h.pb hr (by omega)
          generalize hcc : min (endN p.J (p.J m) (f + (p.J m).left) n) tick = c at *
          have hct : c ≤ tick := by omega
          obtain ⟨g1, _⟩ := h.go hs (by omega)
          obtain ⟨k1, k2⟩ := hf.go h.fits hl hs
          have hdue : (p.J m).due = (p.c m).hd.nx + E m := by rw [h.fits.jb hr.lt]
          rw [hdue] at k1
          obtain ⟨w1, w2⟩ := h.goW hs k1
          obtain ⟨i1, i2⟩ := SI.untilW ht hl k (p.go m (c - f) c) g1 k2
          refine ⟨fun s hs' i hi => ?_, fun i hi q => ?_⟩
          · rcases List.mem_cons.1 hs' with rfl | q2
            · have hi : (m : Int) = i := hi
              obtain rfl : m = i := by omega
              exact w1
            · exact i1 s q2 i hi
          · rw [i2 i hi q, w2 i hi q]
            show _ = wq E L p i q + ((if (m : Int) = i ∧ f / E i = q then c - f else 0) + wnL _ _ _ _)
            omega
    · rw [until_out q]
      exact ⟨fun s hs => (List.not_mem_nil hs).elim, fun i _ q => by show wq E L p i q = wq E L p i q + 0; omega⟩
theorem SI.nxNow {n : Nat} {E L R : Nat → Int} {p : Pl} (h : SI n E L R p) (hf : Feas n E L p) {i : Nat} (hi : i < n) (hd : E i ∣ p.now) : (p.c i).hd.nx = p.now := by
  obtain ⟨t, ht⟩ := hd
  obtain ⟨q, hq⟩ := h.q i hi
  have E0 := h.fits.E0 i hi
  have a := hf.all p.now (Int.le_refl _)
  have b := sumZ_one (f := wrk p E L p.now) n hi (fun j hj => (wrk_ge0 h.fits hj _).1)
  have c := (wrk_ge0 h.fits hi p.now).2
  have d := h.fits.d1 i hi
  have e := h.near i hi
  have k1 : ¬ (p.c i).hd.nx + E i ≤ p.now := fun x => by have := c x; omega
  have hqt : q = t := by
    rw [hq, ht] at k1 e
    have r1 : E i * t < (q + 1) * E i := by have : (q + 1) * E i = q * E i + E i := by grind
                                            omega
    have r2 : q * E i < (t + 1) * E i := by have : (t + 1) * E i = E i * t + E i := by grind
                                            omega
    rw [Int.mul_comm] at r1
    have r3 := Int.lt_of_mul_lt_mul_right r1 (by omega)
    have r4 := Int.lt_of_mul_lt_mul_right r2 (by omega)
    omega
  rw [hq, ht, hqt, Int.mul_comm]
/-- Whose a tick is; -1: nobody's. -/
def tkA (l : List Sl) (k : Int) : Int := l.foldl (fun v s => if s.f ≤ k ∧ k < s.e then s.t else v) (-1)
theorem tkA_app (l : List Sl) (s : Sl) (k : Int) : tkA (l ++ [s]) k = if s.f ≤ k ∧ k < s.e then s.t else tkA l k := by
  unfold tkA
  rw [List.foldl_append]
  rfl
/-- How many of n ticks are task t's. -/
def cntA (l : List Sl) (t a : Int) : Nat → Int
  | 0 => 0
  | n + 1 => cntA l t a n + if tkA l (a + n) = t then 1 else 0
theorem tkA_out {k : Int} : ∀ (l : List Sl), (∀ s ∈ l, s.e ≤ k) → tkA l k = -1 := by
  intro l
  unfold tkA
  generalize (-1 : Int) = v
  induction l generalizing v with
  | nil => intro _; rfl
  | cons s l ih =>
    intro h
    rw [List.foldl_cons, if_neg (by have := h s (List.mem_cons_self ..); omega)]
    exact ih v (fun x hx => h x (List.mem_cons_of_mem _ hx))
theorem Chn.ends : ∀ {a b : Int} {l : List Sl}, Chn a l b → ∀ s ∈ l, a ≤ s.f ∧ s.f < s.e ∧ s.e ≤ b
  | _, _, [], _, s, hs => (List.not_mem_nil hs).elim
  | a, b, x :: l, h, s, hs => by
    rcases List.mem_cons.1 hs with rfl | k
    · exact ⟨h.1, h.2.1, Chn.le h.2.2⟩
    · obtain ⟨a1, a2, a3⟩ := Chn.ends h.2.2 s k
      have := h.1
      have := h.2.1
      exact ⟨by omega, a2, a3⟩
theorem cntA_app {l : List Sl} {s : Sl} {t a : Int} (ht : 0 ≤ t) (hl : ∀ x ∈ l, x.e ≤ s.f) (hs : s.f < s.e) : ∀ n, cntA (l ++ [s]) t a n = cntA l t a n + if s.t = t then max 0 (min s.e (a + n) - max s.f a) else 0
  | 0 => by
    show (0 : Int) = 0 + _
    split
    · have : max 0 (min s.e (a + ((0 : Nat) : Int)) - max s.f a) = 0 := by omega
      omega
    · rfl
  | n + 1 => by
    have ih := cntA_app ht hl hs (a := a) n
    show cntA (l ++ [s]) t a n + _ = cntA l t a n + _ + _
    rw [ih, tkA_app]
    by_cases k : s.f ≤ a + n ∧ a + n < s.e
    · rw [if_pos k, tkA_out l (fun x hx => by have := hl x hx; omega), if_neg (show ¬ (-1 : Int) = t by omega)]
      split
      · omega
      · omega
    · rw [if_neg k]
      split
      · split <;> omega
      · omega
/-- How often a task has a tick of its period: as long as it is at work in it. -/
theorem cnt_wn {E t : Int} (hE : 0 < E) (ht : 0 ≤ t) {D : List Sl} {b : Int} (hc : Chn 0 D b) (hw : ∀ s ∈ D, s.t = t → s.e ≤ (s.f / E + 1) * E) (q : Int) : ∀ j, j ≤ D.length → cntA (D.take j) t (q * E) E.toNat = wnL E q t (D.take j)
  | 0, _ => by
    show cntA [] t (q * E) E.toNat = 0
    generalize E.toNat = n
    induction n with
    | zero => rfl
    | succ n ih =>
      show cntA [] t (q * E) n + (if (-1 : Int) = t then 1 else 0) = 0
      rw [ih, if_neg (by omega)]
      rfl
  | j + 1, hj => by
    have ih := cnt_wn hE ht hc hw q j (by omega)
    have ht1 : D.take (j + 1) = D.take j ++ [D[j]] := by rw [List.take_add_one, List.getElem?_eq_getElem (by omega)]; rfl
    have hm : D[j] ∈ D := List.getElem_mem _
    have hsplit : Chn 0 (D.take j ++ D.drop j) b := by rw [List.take_append_drop]; exact hc
    have hb : ∀ x ∈ D.take j, x.e ≤ (D[j]).f := by
      rw [List.drop_eq_getElem_cons (by omega)] at hsplit
      have gen : ∀ {a : Int} {l : List Sl} {s : Sl} {r : List Sl}, Chn a (l ++ s :: r) b → ∀ x ∈ l, x.e ≤ s.f := by
        intro a l
        induction l generalizing a with
        | nil => intro s r _ x hx; exact (List.not_mem_nil hx).elim
        | cons y l ih2 =>
          intro s r h x hx
          rcases List.mem_cons.1 hx with rfl | k
          · exact (Chn.ends h.2.2 s (by simp)).1
          · exact ih2 h.2.2 x k
      exact gen hsplit
    obtain ⟨e1, e2, e3⟩ := Chn.ends hc _ hm
    rw [ht1, cntA_app ht hb e2, ih, wnL_app]
    show _ = _ + ((if (D[j]).t = t ∧ (D[j]).f / E = q then (D[j]).e - (D[j]).f else 0) + 0)
    have hw1 := hw _ hm
    generalize D[j] = s at *
    by_cases k : s.t = t
    · have hw2 := hw1 k
      rw [if_pos k]
      have a1 : s.f / E * E ≤ s.f := Int.ediv_mul_le _ (by omega)
      have a2 : s.f < (s.f / E + 1) * E := by
        have := Int.lt_ediv_add_one_mul_self s.f hE
        exact this
      have hEn : ((E.toNat : Nat) : Int) = E := by omega
      rw [hEn]
      generalize s.f / E = z at *
      have b1 : (z + 1) * E = z * E + E := by grind
      by_cases k2 : z = q
      · subst k2
        rw [if_pos ⟨k, rfl⟩]
        omega
      · rw [if_neg (fun x => k2 x.2)]
        rcases Int.lt_or_gt_of_ne k2 with x | x
        · have := Int.mul_le_mul_of_nonneg_right (show z + 1 ≤ q by omega) (show 0 ≤ E by omega)
          omega
        · have := Int.mul_le_mul_of_nonneg_right (show q + 1 ≤ z by omega) (show 0 ≤ E by omega)
          have b2 : (q + 1) * E = q * E + E := by grind
          omega
    · rw [if_neg k, if_neg (fun x => k x.1)]
      omega
end Go.Proofs.Ytjklaemhfhakhaa

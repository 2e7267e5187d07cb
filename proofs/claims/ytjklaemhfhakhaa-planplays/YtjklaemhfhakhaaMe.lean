/- Where the load is at most the whole, none is late. No program. -/
import Derived.Test.YtjklaemhfhakhaaMc
import Derived.Test.YtjklaemhfhakhaaMd
namespace Go.Proofs.Ytjklaemhfhakhaa

/-- What a task still has to do that is due by d. -/
def wrk (p : Pl) (E L : Nat → Int) (d : Int) (i : Nat) : Int :=
  if (p.c i).hd.nx + E i ≤ d then (d - (p.c i).hd.nx) / E i * L i - (p.c i).done else 0
/-- From Now on all can be done in time. -/
structure Feas (n : Nat) (E L : Nat → Int) (p : Pl) : Prop where
  all : ∀ d, p.now ≤ d → sumZ (wrk p E L d) n ≤ d - p.now
  due : ∀ i, i < n → p.now ≤ (p.c i).hd.nx + E i
theorem wrk_le {n : Nat} {E L R : Nat → Int} {p : Pl} (h : Fits n E L R p) {i : Nat} (hi : i < n) {d c : Int} (hc : c ≤ d) (hx : (p.c i).hd.nx + E i ≤ d → c ≤ (p.c i).hd.nx) : wrk p E L d i * E i ≤ (d - c) * L i := by
  obtain ⟨m1, m2, m3⟩ := h.may i hi
  have d0 := h.d0 i hi
  have E0 := h.E0 i hi
  unfold wrk
  split
  · rename_i q
    have k := hx q
    generalize (p.c i).hd.nx = x at *
    generalize (p.c i).done = y at *
    generalize E i = e at *
    generalize L i = l at *
    have h1 : (d - x) / e * e ≤ d - x := Int.ediv_mul_le _ (by omega)
    generalize (d - x) / e = z at *
    have h2 : z * e * l ≤ (d - x) * l := Int.mul_le_mul_of_nonneg_right h1 (by omega)
    have h3 : (d - x) * l ≤ (d - c) * l := Int.mul_le_mul_of_nonneg_right (by omega) (by omega)
    have h4 : 0 ≤ y * e := Int.mul_nonneg d0 (by omega)
    have h5 : (z * l - y) * e = z * e * l - y * e := by grind
    omega
  · rw [Int.zero_mul]
    exact Int.mul_nonneg (by omega) (by omega)
theorem wrk_ge0 {n : Nat} {E L R : Nat → Int} {p : Pl} (h : Fits n E L R p) {i : Nat} (hi : i < n) (d : Int) : 0 ≤ wrk p E L d i ∧ ((p.c i).hd.nx + E i ≤ d → L i - (p.c i).done ≤ wrk p E L d i) := by
  obtain ⟨m1, m2, m3⟩ := h.may i hi
  have d0 := h.d0 i hi
  have d1 := h.d1 i hi
  have E0 := h.E0 i hi
  unfold wrk
  split
  · rename_i q
    generalize (p.c i).hd.nx = x at *
    generalize (p.c i).done = y at *
    generalize E i = e at *
    generalize L i = l at *
    have h1 : 1 ≤ (d - x) / e := by rw [Int.le_ediv_iff_mul_le (by omega)]; omega
    generalize (d - x) / e = z at *
    have h2 : 1 * l ≤ z * l := Int.mul_le_mul_of_nonneg_right h1 (by omega)
    rw [Int.one_mul] at h2
    exact ⟨by omega, fun _ => by omega⟩
  · rename_i q
    exact ⟨Int.le_refl _, fun k => absurd k q⟩
/-- Nothing is released ahead of c: all that is due by then can be done behind it. -/
theorem Feas.rest {n : Nat} {E L R : Nat → Int} {p : Pl} (h : Fits n E L R p) (hl : Light n E L) {c d : Int} (hc : c ≤ d) (hx : ∀ i, i < n → (p.c i).hd.nx + E i ≤ d → c ≤ (p.c i).hd.nx) : sumZ (wrk p E L d) n ≤ d - c :=
  hl.le h.E0 (by omega) (fun i hi => wrk_le h hi hc (hx i hi))
theorem Feas.idle {n : Nat} {E L R : Nat → Int} {p : Pl} (h : Fits n E L R p) (hl : Light n E L) (hf : Feas n E L p) {c : Int} (hc : p.now ≤ c) (hx : c = p.now ∨ ∀ i, i < n → c ≤ (p.c i).hd.nx) : Feas n E L (p.at c) := by
  rcases hx with rfl | hx
  · exact ⟨hf.all, hf.due⟩
  · refine ⟨fun d hd => ?_, fun i hi => ?_⟩
    · have e : wrk (p.at c) E L d = wrk p E L d := rfl
      rw [e]
      exact Feas.rest h hl hd (fun i hi _ => hx i hi)
    · have := hx i hi
      have := h.E0 i hi
      show c ≤ (p.c i).hd.nx + E i
      omega
theorem Str.nxs {n : Nat} {p : Pl} {m : Nat} {f c : Int} (s : Str n p m f c) : f = p.now ∨ ∀ i, i < n → f ≤ (p.c i).hd.nx := by
  by_cases q : f = p.now
  · exact Or.inl q
  · right
    intro i hi
    have h1 := s.runs.least i hi
    have h2 := s.runs.at'
    have e : (p.J i).frm = (p.c i).hd.nx := rfl
    rw [e] at h1
    omega
/-- One stretch: it is not late, and all can still be done. -/
theorem Feas.go {n : Nat} {E L R : Nat → Int} {p : Pl} (h : Fits n E L R p) (hl : Light n E L) (hf : Feas n E L p) {m : Nat} {f c : Int} (s : Str n p m f c) : c ≤ (p.J m).due ∧ Feas n E L (p.go m (c - f) c) := by
  have hm := s.runs.lt
  have hlt := s.lt
  obtain ⟨w1, w2, w3, w4, w5⟩ := s.work h
  have hI := Feas.idle h hl hf w3 s.nxs
  have hFi := h.idle w3
  have hJm := h.jb hm
  have hdue : (p.J m).due = (p.c m).hd.nx + E m := by rw [hJm]
  have left := (wrk_ge0 h hm ((p.c m).hd.nx + E m)).2 (Int.le_refl _)
  have one := sumZ_one (f := wrk p E L ((p.c m).hd.nx + E m)) n hm (fun i hi => (wrk_ge0 h hi _).1)
  have hall := hI.all ((p.c m).hd.nx + E m) (hI.due m hm)
  have e1 : wrk (p.at f) E L = wrk p E L := rfl
  rw [e1] at hall
  have hall : sumZ (wrk p E L ((p.c m).hd.nx + E m)) n ≤ (p.c m).hd.nx + E m - f := hall
  have hnl : c ≤ (p.c m).hd.nx + E m := by omega
  rw [hdue]
  refine ⟨hnl, ?_⟩
  obtain ⟨k1, k2, k3⟩ := h.may m hm
  have hd0 := h.d0 m hm
  have E0 := h.E0 m hm
  have hlater : ∀ i, i < n → (p.c i).hd.nx + E i < (p.c m).hd.nx + E m → c ≤ (p.c i).hd.nx := by
    intro i hi hd
    have ha : ahB (p.J i) (p.J m) = true := by
      rw [ahB_iff, h.jb hi, hJm]
      exact Or.inl hd
    have := endN_at (to := f + (p.J m).left) n i hi ha
    have := s.le
    have e2 : (p.J i).frm = (p.c i).hd.nx := rfl
    omega
  have hne : ∀ i, i ≠ m → (p.go m (c - f) c).c i = p.c i := fun i hi => upd_ne _ _ hi
  have hmm : (p.go m (c - f) c).c m = (p.c m).work (c - f) := upd_at _ _ _
  have hG := h.go s
  have hnx : (p.c m).hd.nx ≤ ((p.go m (c - f) c).c m).hd.nx := by
    rw [hmm, w5]
    split
    · exact Int.le_refl _
    · show (p.c m).hd.nx ≤ (p.c m).hd.nx + E m; omega
  refine ⟨fun d hd => ?_, fun i hi => ?_⟩
  · have hd : c ≤ d := hd
    show sumZ _ n ≤ d - c
    by_cases q : (p.c m).hd.nx + E m ≤ d
    · have hs := sumZ_upd (f := wrk (p.go m (c - f) c) E L d) (g := wrk p E L d) n hm (fun i hi hne' => by unfold wrk; rw [hne i hne'])
      have ha := hI.all d (by show f ≤ d; omega)
      rw [e1] at ha
      have ha : sumZ (wrk p E L d) n ≤ d - f := ha
      have hw : wrk (p.go m (c - f) c) E L d m = wrk p E L d m - (c - f) := by
        unfold wrk
        rw [hmm, w5, if_pos q]
        split
        · show (d - (p.c m).hd.nx) / E m * L m - ((p.c m).done + (c - f)) = _
          omega
        · rename_i hq
          show (if (p.c m).hd.nx + E m + E m ≤ d then (d - ((p.c m).hd.nx + E m)) / E m * L m - 0 else 0) = _
          generalize (p.c m).hd.nx = x at *
          generalize (p.c m).done = y at *
          generalize E m = e at *
          generalize L m = l at *
          have hz : (d - (x + e)) / e = (d - x) / e - 1 := by
            have : d - (x + e) = (d - x) + (-1) * e := by omega
            rw [this, Int.add_mul_ediv_right _ _ (by omega)]
            omega
          split
          · rw [hz]
            generalize (d - x) / e = z at *
            have : (z - 1) * l = z * l - l := by grind
            omega
          · rename_i hq2
            have h1 : (d - x) / e = 1 := by
              have a : 1 ≤ (d - x) / e := by rw [Int.le_ediv_iff_mul_le (by omega)]; omega
              have b : (d - x) / e < 2 := by rw [Int.ediv_lt_iff_lt_mul (by omega)]; omega
              omega
            rw [h1]
            omega
      rw [hs, hw]
      omega
    · refine Feas.rest hG hl hd fun i hi hdi => ?_
      by_cases e : i = m
      · subst e; omega
      · rw [hne i e] at hdi ⊢
        exact hlater i hi (by omega)
  · show c ≤ _
    by_cases e : i = m
    · subst e; omega
    · rw [hne i e]
      have Ei := h.E0 i hi
      by_cases q : (p.c i).hd.nx + E i < (p.c m).hd.nx + E m
      · have := hlater i hi q; omega
      · omega
theorem Feas.start {n : Nat} {E L R : Nat → Int} {p : Pl} (h : Fits n E L R p) (hl : Light n E L) (h0 : p.now = 0) (hn : ∀ i, i < n → (p.c i).hd.nx = 0) : Feas n E L p := by
  refine ⟨fun d hd => ?_, fun i hi => ?_⟩
  · rw [h0] at hd ⊢
    exact Feas.rest h hl hd (fun i hi _ => by rw [hn i hi]; exact Int.le_refl _)
  · rw [h0, hn i hi]
    have := h.E0 i hi
    omega
end Go.Proofs.Ytjklaemhfhakhaa

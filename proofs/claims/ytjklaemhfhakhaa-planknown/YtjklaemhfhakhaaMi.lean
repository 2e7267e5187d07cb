/- Until in pieces. No program. -/
import Derived.Test.YtjklaemhfhakhaaMh
namespace Go.Proofs.Ytjklaemhfhakhaa

/-- Whose a tick is, behind what stood there. -/
def tkF (l : List Sl) (v k : Int) : Int := l.foldl (fun v s => if s.f ≤ k ∧ k < s.e then s.t else v) v
theorem tkF_app (a b : List Sl) (v k : Int) : tkF (a ++ b) v k = tkF b (tkF a v k) k := by unfold tkF; rw [List.foldl_append]
theorem tkF_cons (s : Sl) (l : List Sl) (v k : Int) : tkF (s :: l) v k = tkF l (if s.f ≤ k ∧ k < s.e then s.t else v) k := rfl
theorem endN_eq {J J' : Nat → Jb} {r r' : Jb} {z : Int} : ∀ n, (∀ i, i < n → (J i).frm = (J' i).frm ∧ ahB (J i) r = ahB (J' i) r') → endN J r z n = endN J' r' z n
  | 0, _ => rfl
  | n + 1, h => by
    rw [endN, endN, endN_eq n (fun i hi => h i (by omega)), (h n (by omega)).1, (h n (by omega)).2]
theorem upd_upd {α : Type} (f : Nat → α) (k : Nat) (x y : α) : upd (upd f k x) k y = upd f k y := by
  funext i
  unfold upd
  split <;> rfl
/-- Fuel is no matter. -/
theorem until_fuel {n : Nat} {tick : Int} (ht : tick ≤ 1152921504606846976) : ∀ (k k' : Nat) (p : Pl), PB n p → tick - p.now ≤ k → tick - p.now ≤ k' → untilN n tick k p = untilN n tick k' p
  | 0, k', p, _, h1, _ => by rw [until_out (k := 0) (by omega), until_out (by omega)]
  | k + 1, 0, p, _, _, h2 => by rw [until_out (k := 0) (by omega), until_out (by omega)]
  | k + 1, k' + 1, p, h, h1, h2 => by
    by_cases q : p.now < tick
    · by_cases n0 : n = 0
      · have hf : tick ≤ (runN p.J p.now n).2 := by subst n0; show tick ≤ farT; unfold farT; omega
        rw [until_far q hf, until_far q hf]
      · obtain ⟨m, f, e, hr⟩ := h.runs (by omega)
        by_cases hf : tick ≤ f
        · have hf : tick ≤ (runN p.J p.now n).2 := by rw [e]; exact hf
          rw [until_far q hf, until_far q hf]
        · rw [until_step q e (by omega), until_step q e (by omega)]
          have hs := cut_str (tick := tick) h hr (by omega)
          have hlt := hs.lt
          have hpf := (hr.f_le h).2.2.2
          have hc : min (endN p.J (p.J m) (f + (p.J m).left) n) tick ≤ tick := by omega
          generalize min (endN p.J (p.J m) (f + (p.J m).left) n) tick = c at *
          have ih := until_fuel ht k k' (p.go m (c - f) c) (h.go hs (by omega)) (by show tick - c ≤ k; omega) (by show tick - c ≤ k'; omega)
          rw [ih]
    · rw [until_out q, until_out q]
theorem Runs.later' {n : Nat} {p : Pl} {m : Nat} {f x : Int} (h : Runs n p.J p.now m f) (h1 : p.now ≤ x) (h2 : x ≤ f) : Runs n (p.at x).J (p.at x).now m f := by
  have hat := h.at'
  refine ⟨h.lt, ?_, fun i hi => ?_, fun i hi hne e => ?_⟩
  · show f = max (p.J m).frm x
    omega
  · have := h.least i hi
    show f ≤ max (p.J i).frm x
    omega
  · have e : max (p.J i).frm x = f := e
    have hl := h.least i hi
    show ahB (p.J m) (p.J i) = true
    exact h.ahead i hi hne (by omega)
/-- A stretch in two. -/
theorem Str.two {n : Nat} {E L R : Nat → Int} {p : Pl} {m : Nat} {f c x : Int} (hF : Fits n E L R p) (hb : PB n p) (s : Str n p m f c) (h1 : f < x) (h2 : x < c) (hx : x ≤ 1152921504606846976) :
    let p1 := p.go m (x - f) x
    PB n p1 ∧ runN p1.J p1.now n = (p1.J m, x) ∧ endN p1.J (p1.J m) (x + (p1.J m).left) n = endN p.J (p.J m) (f + (p.J m).left) n ∧ p1.go m (c - x) c = p.go m (c - f) c ∧ (p1.J m).due = (p.J m).due := by
  intro p1
  have s1 : Str n p m f x := ⟨s.runs, h1, by have := s.le; omega⟩
  have hb1 : PB n p1 := hb.go s1 hx
  have hm := s.runs.lt
  obtain ⟨w1, w2, w3, w4, w5⟩ := s1.work hF
  obtain ⟨z1, _, _, _, _⟩ := s.work hF
  rw [if_pos (by omega)] at w5
  have htl := hF.tl m hm
  have hcm : p1.c m = ⟨(p.c m).hd, [], (p.c m).done + (x - f)⟩ := (upd_at _ _ _).trans w5
  have hne : ∀ i, i ≠ m → p1.c i = p.c i := fun i hi => upd_ne _ _ hi
  have hJm : p1.J m = ⟨m, (p.c m).hd.nx, (p.c m).hd.nx + (p.c m).hd.e, (p.c m).hd.l - ((p.c m).done + (x - f)), (p.c m).hd.r⟩ := by
    show (p1.c m).jb m = _
    rw [hcm]
    rfl
  have hJm0 : p.J m = ⟨m, (p.c m).hd.nx, (p.c m).hd.nx + (p.c m).hd.e, (p.c m).hd.l - (p.c m).done, (p.c m).hd.r⟩ := rfl
  have hJ : ∀ i, i ≠ m → p1.J i = p.J i := fun i hi => by show (p1.c i).jb i = _; rw [hne i hi]; rfl
  have hah : ∀ i, i < n → (p1.J i).frm = (p.J i).frm ∧ ahB (p1.J i) (p1.J m) = ahB (p.J i) (p.J m) := by
    intro i _
    by_cases e : i = m
    · subst e
      rw [ah_irrefl, ah_irrefl, hJm]
      exact ⟨rfl, rfl⟩
    · rw [hJ i e, hJm, hJm0]
      exact ⟨rfl, rfl⟩
  have hend : endN p1.J (p1.J m) (x + (p1.J m).left) n = endN p.J (p.J m) (f + (p.J m).left) n := by
    have e1 : x + (p1.J m).left = f + (p.J m).left := by rw [hJm, hJm0]; show x + ((p.c m).hd.l - ((p.c m).done + (x - f))) = f + ((p.c m).hd.l - (p.c m).done); omega
    rw [e1]
    exact endN_eq n hah
  refine ⟨hb1, ?_, hend, ?_, by rw [hJm, hJm0]⟩
  · refine Runs.eq ⟨hm, ?_, fun i hi => ?_, fun i hi hi2 e => ?_⟩ hb1
    · rw [hJm]; show x = max (p.c m).hd.nx x; omega
    · show x ≤ max _ x; omega
    · have e : max (p1.J i).frm x = x := e
      rcases ah_total (p1.named n) hm hi (fun q => hi2 q.symm) with k | k
      · exact k
      · rw [(hah i hi).2] at k
        have a := endN_at («to» := f + (p.J m).left) n i hi k
        have b := s.le
        have d := (hah i hi).1
        omega
  · show (⟨c, upd p1.c m ((p1.c m).work (c - x))⟩ : Pl) = ⟨c, upd p.c m ((p.c m).work (c - f))⟩
    have e1 : (p1.c m).work (c - x) = (p.c m).work (c - f) := by
      rw [hcm, work_of rfl, work_of htl]
      show (if (p.c m).done + (x - f) + (c - x) < (p.c m).hd.l then _ else _) = _
      have : (p.c m).done + (x - f) + (c - x) = (p.c m).done + (c - f) := by omega
      rw [this]
    rw [e1]
    show (⟨c, upd (upd p.c m _) m _⟩ : Pl) = _
    rw [upd_upd]
/-- Until a tick, then on: as if at once. -/
theorem until_split {n : Nat} {E L R : Nat → Int} {T x : Int} (hT : T ≤ 1152921504606846976) (hx : x ≤ T) : ∀ (k : Nat) (p : Pl), Fits n E L R p → PB n p → p.now ≤ x → T - p.now ≤ k →
    (untilN n T k (untilN n x k p).2).2 = (untilN n T k p).2 ∧ ∀ v y, tkF (untilN n T k (untilN n x k p).2).1 (tkF (untilN n x k p).1 v y) y = tkF (untilN n T k p).1 v y
  | 0, p, _, _, h1, h2 => by
    rw [until_out (tick := x) (k := 0) (by omega)]
    exact ⟨rfl, fun v y => rfl⟩
  | k + 1, p, hF, hb, h1, h2 => by
    by_cases q : p.now < x
    · by_cases n0 : n = 0
      · have hf : ∀ t : Int, t ≤ 1152921504606846976 → t ≤ (runN p.J p.now n).2 := fun t ht => by subst n0; show t ≤ farT; unfold farT; omega
        rw [until_far q (hf x (by omega)), until_far (by omega) (hf T hT)]
        by_cases q2 : x < T
        · rw [until_far (p := p.at x) q2 (by subst n0; show T ≤ farT; unfold farT; omega)]
          exact ⟨rfl, fun v y => rfl⟩
        · obtain rfl : x = T := by omega
          rw [until_out (p := p.at x) (by show ¬ x < x; omega)]
          exact ⟨rfl, fun v y => rfl⟩
      · obtain ⟨m, f, e, hr⟩ := hb.runs (by omega)
        have hpf := (hr.f_le hb).2.2.2
        have hnow := hb.now
        by_cases hxf : x ≤ f
        · rw [until_far q (by rw [e]; exact hxf)]
          have hr2 := hr.later' (x := x) (by omega) hxf
          have hb2 := hb.at («to» := x) (by omega) (by omega)
          have e2 := hr2.eq hb2
          by_cases q2 : x < T
          · by_cases hTf : T ≤ f
            · rw [until_far (p := p.at x) q2 (by rw [e2]; exact hTf), until_far (by omega) (by rw [e]; exact hTf)]
              exact ⟨rfl, fun v y => rfl⟩
            · rw [until_step (p := p.at x) q2 e2 (by omega), until_step (by omega) e (by omega)]
              exact ⟨rfl, fun v y => rfl⟩
          · obtain rfl : x = T := by omega
            rw [until_out (p := p.at x) (by show ¬ x < x; omega), until_far (by omega) (by rw [e]; exact hxf)]
            exact ⟨rfl, fun v y => rfl⟩
        · have hs0 := cut_str (tick := T) hb hr (by omega)
          have hend := (hr.ends hb).1
          rw [until_step (tick := T) (by omega) e (by omega), until_step (tick := x) q e (by omega)]
          by_cases hc : endN p.J (p.J m) (f + (p.J m).left) n ≤ x
          · rw [show min (endN p.J (p.J m) (f + (p.J m).left) n) x = endN p.J (p.J m) (f + (p.J m).left) n by omega, show min (endN p.J (p.J m) (f + (p.J m).left) n) T = endN p.J (p.J m) (f + (p.J m).left) n by omega]
            rw [show min (endN p.J (p.J m) (f + (p.J m).left) n) T = endN p.J (p.J m) (f + (p.J m).left) n by omega] at hs0
            generalize endN p.J (p.J m) (f + (p.J m).left) n = c at *
            have hG := hF.go hs0
            have hB := hb.go hs0 (by omega)
            obtain ⟨i1, i2⟩ := until_split hT hx k (p.go m (c - f) c) hG hB hc (by show T - c ≤ k; omega)
            have hfu : untilN n T (k + 1) (untilN n x k (p.go m (c - f) c)).2 = untilN n T k (untilN n x k (p.go m (c - f) c)).2 := by
              by_cases z : (untilN n x k (p.go m (c - f) c)).2.now < T
              · have hpbx : PB n (untilN n x k (p.go m (c - f) c)).2 ∧ c ≤ (untilN n x k (p.go m (c - f) c)).2.now := by
                  have hI := (until_ind (I := fun p => PB n p ∧ c ≤ p.now) (G := fun _ => True) (tick := x) (by omega) (fun p h => h.1) (fun p m f c' h hs hc' => ⟨trivial, h.1.go hs (by omega), by have := hs.lt; have := (hs.runs.f_le h.1).2.2.2; have := h.2; show c ≤ c'; omega⟩) (fun p h hq _ => ⟨h.1.at (by have := h.1.now; omega) (by omega), by have := h.2; show c ≤ x; omega⟩) k (p.go m (c - f) c) ⟨hB, Int.le_refl _⟩).2
                  exact hI
                exact until_fuel hT (k + 1) k _ hpbx.1 (by have := hpbx.2; omega) (by have := hpbx.2; omega)
              · rw [until_out z, until_out z]
            refine ⟨?_, fun v y => ?_⟩
            · show (untilN n T (k + 1) (untilN n x k (p.go m (c - f) c)).2).2 = (untilN n T k (p.go m (c - f) c)).2
              rw [hfu]; exact i1
            · show tkF (untilN n T (k + 1) (untilN n x k (p.go m (c - f) c)).2).1 (tkF (untilN n x k (p.go m (c - f) c)).1 _ y) y = tkF (untilN n T k (p.go m (c - f) c)).1 _ y
              rw [hfu]; exact i2 _ y
          · rw [show min (endN p.J (p.J m) (f + (p.J m).left) n) x = x by omega]
            have hcx : x ≤ min (endN p.J (p.J m) (f + (p.J m).left) n) T := by omega
            have hcT : min (endN p.J (p.J m) (f + (p.J m).left) n) T ≤ T := by omega
            have hfx : f < x := by omega
            rw [until_out (p := p.go m (x - f) x) (by show ¬ x < x; omega)]
            show (untilN n T (k + 1) (p.go m (x - f) x)).2 = _ ∧ ∀ v y, tkF (untilN n T (k + 1) (p.go m (x - f) x)).1 (tkF [⟨m, f, x, _⟩] v y) y = _
            by_cases hxc : x < min (endN p.J (p.J m) (f + (p.J m).left) n) T
            · obtain ⟨t1, t2, t3, t4, t5⟩ := Str.two hF hb hs0 hfx hxc (by omega)
              rw [until_step (p := p.go m (x - f) x) (by show x < T; omega) t2 (by omega), t3]
              generalize min (endN p.J (p.J m) (f + (p.J m).left) n) T = c at *
              rw [t4]
              refine ⟨rfl, fun v y => ?_⟩
              have hv : (if x ≤ y ∧ y < c then (m : Int) else if f ≤ y ∧ y < x then (m : Int) else v) = if f ≤ y ∧ y < c then (m : Int) else v := by
                by_cases y1 : f ≤ y ∧ y < c
                · rw [if_pos y1]
                  split
                  · rfl
                  · rw [if_pos (by omega)]
                · rw [if_neg y1, if_neg (by omega), if_neg (by omega)]
              exact congrArg (fun z => tkF (untilN n T k (p.go m (c - f) c)).1 z y) hv
            · have hxT : x = T := by omega
              subst hxT
              rw [show min (endN p.J (p.J m) (f + (p.J m).left) n) x = x by omega]
              rw [until_out (p := p.go m (x - f) x) (by show ¬ x < x; omega), until_out (p := p.go m (x - f) x) (by show ¬ x < x; omega)]
              exact ⟨rfl, fun v y => rfl⟩
    · rw [until_out q]
      exact ⟨rfl, fun v y => rfl⟩
end Go.Proofs.Ytjklaemhfhakhaa

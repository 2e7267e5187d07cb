/- A Set, in both plans. No program. -/
import Derived.Test.YtjklaemhfhakhaaNh
import Derived.Test.YtjklaemhfhakhaaNd
namespace Go.Proofs.Ytjklaemhfhakhaa

def lastR (R : List Rw) : Rw := R.getLastD ⟨0, 1, 1, 0⟩
/-- A row of another kind behind the last one, if it is of another kind. -/
def addL (R : List Rw) (a e l r : Int) : List Rw := if (lastR R).e = e ∧ (lastR R).l = l ∧ (lastR R).r = r then R else R ++ [⟨aft (lastR R).nx (lastR R).e a, e, l, r⟩]
/-- What a Set makes of a task's rows. -/
def chgL (R : List Rw) (a e l r : Int) : List Rw :=
  if a < (lastR R).nx then (if R.length = 1 then [⟨(lastR R).nx, e, l, r⟩] else addL R.dropLast a e l r) else addL R a e l r
def setO (x : On) (e l r : Int) : On := ⟨e, l, r, x.nx, x.w, x.lf⟩
theorem lastR_app (R : List Rw) (x : Rw) : lastR (R ++ [x]) = x := by
  unfold lastR
  simp
theorem aft_eq {f k e a nx : Int} (h0 : f ≤ a) (h1 : f + k * e = nx) (h2 : a < nx) (h3 : f + (k - 1) * e ≤ a) (he : 1 ≤ e) : aft f e a = nx := by
  obtain ⟨b1, b2, b3, b4, b5⟩ := aft_bd h0 he
  have h4 : (k - 1) * e = k * e - e := by grind
  have h5 : aft f e a - nx = ((a - f) / e + 1 - k) * e := by
    have : ((a - f) / e + 1 - k) * e = ((a - f) / e + 1) * e - k * e := by grind
    rw [this, b4]
    omega
  generalize (a - f) / e + 1 - k = M at *
  rcases Int.lt_trichotomy M 0 with q | q | q
  · have := Int.mul_le_mul_of_nonneg_right (show M ≤ -1 by omega) (show 0 ≤ e by omega)
    omega
  · subst q
    simp at h5
    omega
  · have := Int.mul_le_mul_of_nonneg_right (show 1 ≤ M by omega) (show 0 ≤ e by omega)
    omega
/-- The last that waits. -/
theorem last_w {w : List Jr} (h : w ≠ []) : ∃ T j, w.length = T + 1 ∧ w[T]? = some j := by
  have h0 : 0 < w.length := by
    cases w with
    | nil => exact absurd rfl h
    | cons _ _ => simp
  exact ⟨w.length - 1, w[w.length - 1], by omega, List.getElem?_eq_getElem (by omega)⟩
theorem last_map {w : List Jr} {T : Nat} {j : Jr} (h1 : w.length = T + 1) (h2 : w[T]? = some j) : lastR (w.map Jr.rw) = j.rw ∧ ∃ v, w = v ++ [j] := by
  have hw : w ≠ [] := fun e => by subst e; simp at h1
  have hl : w = w.dropLast ++ [w.getLast hw] := (List.dropLast_concat_getLast hw).symm
  have hj : w.getLast hw = j := by
    rw [List.getLast_eq_getElem hw]
    have : w[w.length - 1]? = some j := by rw [h1]; exact h2
    rw [List.getElem?_eq_getElem (by omega)] at this
    exact Option.some.inj this
  rw [hj] at hl
  refine ⟨?_, _, hl⟩
  rw [hl, List.map_append]
  exact lastR_app _ _
theorem last_past {a : Int} : ∀ {w : List Jr} {T : Nat} {j : Jr}, w.length = T + 1 → w[T]? = some j → past a w → j.f + (j.k - 1) * j.e ≤ a
  | [], _, _, h, _, _ => by simp at h
  | [b], T, j, h, hj, hp => by
    obtain rfl : T = 0 := by simpa using h.symm
    simp only [List.getElem?_cons_zero, Option.some.injEq] at hj
    subst hj
    exact hp
  | _ :: b :: t, T, j, h, hj, hp => by
    obtain ⟨T', rfl⟩ : ∃ T', T = T' + 1 := ⟨T - 1, by simp only [List.length_cons] at h; omega⟩
    exact last_past (w := b :: t) (T := T') (by simpa using h) (by simpa using hj) hp
/-- A Set leaves the same in both. -/
theorem set_rows {x : On} {a : Int} (ho : x.Ok a) (hn : a < x.nx) (e l r : Int) : (setO x e l r).rws = chgL x.rws a e l r := by
  cases hw : x.w with
  | nil =>
    have hs : x.same = false := by unfold On.same; rw [hw]; rfl
    have hs2 : (setO x e l r).same = false := by show sameL e l r x.w = false; rw [hw]; rfl
    have hr : x.rws = [x.cur] := by unfold On.rws; rw [hs, hw]; rfl
    have hr2 : (setO x e l r).rws = [⟨x.nx, e, l, r⟩] := by
      unfold On.rws
      rw [hs2]
      show x.w.map Jr.rw ++ _ = _
      rw [hw]; rfl
    rw [hr, hr2]
    unfold chgL
    show _ = if a < x.nx then _ else _
    rw [if_pos hn]
    rfl
  | cons j0 t0 =>
    obtain ⟨T, j, h1, h2⟩ := last_w (w := x.w) (by rw [hw]; simp)
    obtain ⟨hlast, v, hv⟩ := last_map h1 h2
    have hch := last_chain h1 h2 ho.ch
    have hpa := last_past h1 h2 ho.pa
    obtain ⟨⟨m1, m2, m3⟩, m4, m5⟩ := ho.jm j (List.mem_of_getElem? h2)
    have hkk := Int.mul_nonneg (show 0 ≤ j.k - 1 by omega) (show 0 ≤ j.e by omega)
    have hja : j.f ≤ a := by omega
    have haf : aft j.f j.e a = x.nx := aft_eq hja hch hn hpa (by omega)
    have hadd : addL (x.w.map Jr.rw) a e l r = (setO x e l r).rws := by
      unfold addL On.rws
      rw [hlast]
      show (if j.e = e ∧ j.l = l ∧ j.r = r then _ else _) = x.w.map Jr.rw ++ (if sameL e l r x.w = true then [] else [⟨x.nx, e, l, r⟩])
      rw [last_same h1 h2]
      by_cases q : j.e = e ∧ j.l = l ∧ j.r = r
      · rw [if_pos q, if_pos (by simpa using q), List.append_nil]
      · rw [if_neg q, if_neg (by simpa using q)]
        show x.w.map Jr.rw ++ [(⟨aft j.f j.e a, e, l, r⟩ : Rw)] = _
        rw [haf]
    unfold chgL
    cases hs : x.same with
    | true =>
      have hr : x.rws = x.w.map Jr.rw := by unfold On.rws; rw [hs]; simp
      rw [hr, hlast, if_neg (show ¬ a < j.rw.nx by show ¬ a < j.f; omega)]
      exact hadd.symm
    | false =>
      have hr : x.rws = x.w.map Jr.rw ++ [x.cur] := by unfold On.rws; rw [hs]; rfl
      rw [hr, lastR_app, if_pos (show a < x.cur.nx from hn), if_neg (by rw [hw]; simp), List.dropLast_concat]
      exact hadd.symm
theorem set_ok {x : On} {a : Int} (ho : x.Ok a) {e l : Int} (r : Int) (hm : MayT e l) : (setO x e l r).Ok a := ⟨hm, ho.jm, ho.ch, ho.pa, ho.lf, ho.lo⟩
end Go.Proofs.Ytjklaemhfhakhaa

/- The document's own plan: jobs that wait in rows, and what they are to the rows of a task. No program. -/
import Derived.Test.YtjklaemhfhakhaaKb
import Derived.Test.YtjklaemhfhakhaaEa
namespace Go.Proofs.Ytjklaemhfhakhaa

/-- Jobs that wait: the first one's release, how many, how they are. -/
structure Jr where
  f : Int
  k : Int
  e : Int
  l : Int
  r : Int
/-- A task of the document's plan. -/
structure On where
  e : Int
  l : Int
  r : Int
  nx : Int
  w : List Jr
  lf : Int
def Jr.rw (j : Jr) : Rw := ⟨j.f, j.e, j.l, j.r⟩
def On.cur (x : On) : Rw := ⟨x.nx, x.e, x.l, x.r⟩
/-- The last of the rows is of this kind. -/
def sameL (e l r : Int) : List Jr → Bool
  | [] => false
  | [j] => decide (j.e = e ∧ j.l = l ∧ j.r = r)
  | _ :: j :: t => sameL e l r (j :: t)
/-- Each row ends where the next one begins. -/
def chain (nx : Int) : List Jr → Prop
  | [] => True
  | [j] => j.f + j.k * j.e = nx
  | j :: j' :: t => j.f + j.k * j.e = j'.f ∧ chain nx (j' :: t)
def On.same (x : On) : Bool := sameL x.e x.l x.r x.w
def On.rws (x : On) : List Rw := x.w.map Jr.rw ++ (if x.same = true then [] else [x.cur])
def On.dn (x : On) : Int := match x.w with
  | [] => 0
  | j :: _ => j.l - x.lf
/-- The program's task and the document's are one. -/
structure Abs (x : On) (c : Crs) : Prop where
  rows : c.hd :: c.tl = x.rws
  done : c.done = x.dn
/-- All that waits was released by then. -/
def past (a : Int) : List Jr → Prop
  | [] => True
  | [j] => j.f + (j.k - 1) * j.e ≤ a
  | _ :: j :: t => past a (j :: t)
structure On.Ok (x : On) (a : Int) : Prop where
  may : MayT x.e x.l
  jm : ∀ j ∈ x.w, MayT j.e j.l ∧ 1 ≤ j.k ∧ 0 ≤ j.f
  ch : chain x.nx x.w
  pa : past a x.w
  lf : ∀ j t, x.w = j :: t → 1 ≤ x.lf ∧ x.lf ≤ j.l
  lo : 0 ≤ x.nx ∧ x.nx ≤ 1152922604118474752
/-- .. and what is released by then waits. -/
def bump (n : Int) : List Jr → List Jr
  | [] => []
  | [j] => [⟨j.f, j.k + n, j.e, j.l, j.r⟩]
  | j :: j' :: t => j :: bump n (j' :: t)
def relN (x : On) (a : Int) : Int := (a - x.nx) / x.e + 1
def relO (x : On) (a : Int) : On :=
  if a < x.nx then x
  else ⟨x.e, x.l, x.r, x.nx + relN x a * x.e, if x.same = true then bump (relN x a) x.w else x.w ++ [⟨x.nx, relN x a, x.e, x.l, x.r⟩], if x.w = [] then x.l else x.lf⟩
theorem bump_map (n : Int) : ∀ w : List Jr, (bump n w).map Jr.rw = w.map Jr.rw
  | [] => rfl
  | [_] => rfl
  | j :: j' :: t => by
    rw [bump, List.map_cons, List.map_cons, bump_map n (j' :: t)]
theorem bump_same {e l r : Int} (n : Int) : ∀ w : List Jr, sameL e l r (bump n w) = sameL e l r w
  | [] => rfl
  | [_] => rfl
  | j :: j' :: t => by
    have ih := bump_same (e := e) (l := l) (r := r) n (j' :: t)
    cases h : bump n (j' :: t) with
    | nil => cases t <;> simp [bump] at h
    | cons a b =>
      rw [bump, h]
      rw [h] at ih
      exact ih
theorem app_same {e l r f k : Int} : ∀ w : List Jr, sameL e l r (w ++ [⟨f, k, e, l, r⟩]) = true
  | [] => by simp [sameL]
  | [_] => by simp [sameL]
  | _ :: j' :: t => app_same (j' :: t)
theorem bump_len (n : Int) : ∀ w : List Jr, (bump n w).length = w.length
  | [] => rfl
  | [_] => rfl
  | j :: j' :: t => by rw [bump, List.length_cons, List.length_cons, bump_len n (j' :: t)]
theorem bump_mem {n : Int} (hn : 1 ≤ n) : ∀ {w : List Jr}, (∀ j ∈ w, MayT j.e j.l ∧ 1 ≤ j.k ∧ 0 ≤ j.f) → ∀ j ∈ bump n w, MayT j.e j.l ∧ 1 ≤ j.k ∧ 0 ≤ j.f
  | [], _, j, hj => by cases hj
  | [a], h, j, hj => by
    simp only [bump, List.mem_singleton] at hj
    subst hj
    obtain ⟨h1, h2, h3⟩ := h a (by simp)
    exact ⟨h1, by show 1 ≤ a.k + n; omega, h3⟩
  | a :: b :: t, h, j, hj => by
    rw [bump] at hj
    rcases List.mem_cons.1 hj with rfl | hj
    · exact h j (List.mem_cons_self ..)
    · exact bump_mem hn (fun j hj => h j (List.mem_cons_of_mem _ hj)) j hj
theorem bump_chain {n nx e : Int} {l r : Int} : ∀ {w : List Jr}, w ≠ [] → sameL e l r w = true → chain nx w → chain (nx + n * e) (bump n w)
  | [], h, _, _ => absurd rfl h
  | [a], _, hs, h => by
    simp only [sameL, decide_eq_true_eq] at hs
    show a.f + (a.k + n) * a.e = nx + n * e
    have h' : a.f + a.k * a.e = nx := h
    rw [← h', ← hs.1]
    grind
  | a :: b :: t, _, hs, h => by
    have ih := bump_chain (n := n) (w := b :: t) (by simp) hs h.2
    cases hb : bump n (b :: t) with
    | nil => cases t <;> simp [bump] at hb
    | cons c d =>
      rw [bump, hb]
      rw [hb] at ih
      refine ⟨?_, ih⟩
      have : c.f = b.f := by
        cases t with
        | nil => simp only [bump, List.cons.injEq] at hb; rw [← hb.1]
        | cons _ _ => simp only [bump, List.cons.injEq] at hb; rw [← hb.1]
      rw [this]
      exact h.1
theorem app_chain {nx n e l r : Int} : ∀ {w : List Jr}, chain nx w → chain (nx + n * e) (w ++ [⟨nx, n, e, l, r⟩])
  | [], _ => rfl
  | [_], h => ⟨h, rfl⟩
  | _ :: b :: t, h => ⟨h.1, app_chain (w := b :: t) h.2⟩
/-- The last row's last release. -/
theorem past_of {nx a : Int} : ∀ {w : List Jr} {e l r : Int}, sameL e l r w = true → chain nx w → nx - e ≤ a → past a w
  | [], _, _, _, _, _, _ => trivial
  | [j], e, l, r, hs, h, ha => by
    simp only [sameL, decide_eq_true_eq] at hs
    have h' : j.f + j.k * j.e = nx := h
    show j.f + (j.k - 1) * j.e ≤ a
    have : (j.k - 1) * j.e = j.k * j.e - j.e := by grind
    rw [this, hs.1]
    rw [hs.1] at h'
    omega
  | _ :: b :: t, _, _, _, hs, h, ha => past_of (w := b :: t) hs h.2 ha
theorem past_mono {a b : Int} (hab : a ≤ b) : ∀ {w : List Jr}, past a w → past b w
  | [], _ => trivial
  | [_], h => Int.le_trans h hab
  | _ :: b :: t, h => past_mono (w := b :: t) hab h
theorem relN_bd {x : On} {a : Int} (h : x.nx ≤ a) (he : 1 ≤ x.e) : 1 ≤ relN x a ∧ a < x.nx + relN x a * x.e ∧ x.nx + relN x a * x.e ≤ a + x.e := by
  obtain ⟨h1, h2, h3, h4, h5⟩ := aft_bd h he
  have e : x.nx + relN x a * x.e = aft x.nx x.e a := rfl
  rw [e]
  exact ⟨by unfold relN; omega, h1, h2⟩
theorem bump_head {n : Int} : ∀ {w : List Jr} {j : Jr} {t : List Jr}, bump n w = j :: t → ∃ j' t', w = j' :: t' ∧ j'.l = j.l ∧ j'.f = j.f ∧ j'.e = j.e ∧ j'.r = j.r
  | [], _, _, h => by simp [bump] at h
  | [a], j, t, h => by
    simp only [bump, List.cons.injEq] at h
    exact ⟨a, [], rfl, by rw [← h.1], by rw [← h.1], by rw [← h.1], by rw [← h.1]⟩
  | a :: b :: u, j, t, h => by
    simp only [bump, List.cons.injEq] at h
    exact ⟨a, b :: u, rfl, by rw [← h.1], by rw [← h.1], by rw [← h.1], by rw [← h.1]⟩
theorem relO_ok {x : On} {a b : Int} (h : x.Ok a) (hab : a ≤ b) (hb : b ≤ 1152921504606846976) : (relO x b).Ok b ∧ b < (relO x b).nx := by
  obtain ⟨m1, m2, m3⟩ := h.may
  unfold relO
  by_cases q : b < x.nx
  · rw [if_pos q]
    exact ⟨⟨h.may, h.jm, h.ch, past_mono hab h.pa, h.lf, h.lo⟩, q⟩
  · rw [if_neg q]
    obtain ⟨r1, r2, r3⟩ := relN_bd (x := x) (a := b) (by omega) (by omega)
    have lo := h.lo
    have hsame : sameL x.e x.l x.r (if x.same = true then bump (relN x b) x.w else x.w ++ [⟨x.nx, relN x b, x.e, x.l, x.r⟩]) = true := by
      split
      · rename_i hs
        rw [bump_same]; exact hs
      · exact app_same _
    have hch : chain (x.nx + relN x b * x.e) (if x.same = true then bump (relN x b) x.w else x.w ++ [⟨x.nx, relN x b, x.e, x.l, x.r⟩]) := by
      split
      · rename_i hs
        refine bump_chain (fun e => ?_) hs h.ch
        unfold On.same at hs
        rw [e] at hs
        cases hs
      · exact app_chain h.ch
    refine ⟨⟨h.may, ?_, hch, past_of hsame hch (by show x.nx + relN x b * x.e - x.e ≤ b; omega), ?_, by show 0 ≤ x.nx + relN x b * x.e ∧ x.nx + relN x b * x.e ≤ _; omega⟩, r2⟩
    · show ∀ j ∈ (if x.same = true then bump (relN x b) x.w else x.w ++ [⟨x.nx, relN x b, x.e, x.l, x.r⟩]), _
      split
      · exact bump_mem r1 h.jm
      · intro j hj
        rcases List.mem_append.1 hj with hj | hj
        · exact h.jm j hj
        · simp only [List.mem_singleton] at hj
          subst hj
          exact ⟨h.may, r1, lo.1⟩
    · intro j t hw
      show 1 ≤ (if x.w = [] then x.l else x.lf) ∧ (if x.w = [] then x.l else x.lf) ≤ j.l
      change (if x.same = true then bump (relN x b) x.w else x.w ++ [⟨x.nx, relN x b, x.e, x.l, x.r⟩]) = j :: t at hw
      by_cases q0 : x.w = []
      · have hns : x.same = false := by unfold On.same; rw [q0]; rfl
        rw [if_pos q0]
        rw [hns, if_neg (by simp), q0] at hw
        simp only [List.nil_append, List.cons.injEq] at hw
        rw [← hw.1]
        exact ⟨m1, Int.le_refl _⟩
      · rw [if_neg q0]
        by_cases hs : x.same = true
        · rw [if_pos hs] at hw
          obtain ⟨j', t', hw', hl, _⟩ := bump_head hw
          rw [← hl]
          exact h.lf j' t' hw'
        · rw [if_neg hs] at hw
          cases hx : x.w with
          | nil => exact absurd hx q0
          | cons j' t' =>
            rw [hx] at hw
            simp only [List.cons_append, List.cons.injEq] at hw
            rw [← hw.1]
            exact h.lf j' t' hx
theorem relO_lt {x : On} {b : Int} (h : b < x.nx) : relO x b = x := if_pos h
theorem relO_same {x : On} {b : Int} (h : ¬ b < x.nx) (hs : x.same = true) : relO x b = ⟨x.e, x.l, x.r, x.nx + relN x b * x.e, bump (relN x b) x.w, if x.w = [] then x.l else x.lf⟩ := by
  unfold relO
  rw [if_neg h, if_pos hs]
theorem relO_new {x : On} {b : Int} (h : ¬ b < x.nx) (hs : x.same = false) : relO x b = ⟨x.e, x.l, x.r, x.nx + relN x b * x.e, x.w ++ [⟨x.nx, relN x b, x.e, x.l, x.r⟩], if x.w = [] then x.l else x.lf⟩ := by
  unfold relO
  rw [if_neg h, hs]
  rfl
theorem relO_rws (x : On) (b : Int) : (relO x b).rws = x.rws := by
  by_cases h : b < x.nx
  · rw [relO_lt h]
  · cases hs : x.same with
    | true =>
      rw [relO_same h hs]
      have h2 : sameL x.e x.l x.r (bump (relN x b) x.w) = true := (bump_same _ _).trans hs
      unfold On.rws On.same at *
      simp only [h2, hs, if_true, bump_map]
    | false =>
      rw [relO_new h hs]
      have h2 : sameL x.e x.l x.r (x.w ++ [⟨x.nx, relN x b, x.e, x.l, x.r⟩]) = true := app_same _
      unfold On.rws On.same at *
      simp only [h2, hs, if_true, List.map_append, List.append_nil]
      rfl
theorem relO_dn (x : On) (b : Int) : (relO x b).dn = x.dn := by
  by_cases h : b < x.nx
  · rw [relO_lt h]
  · cases hw : x.w with
    | nil =>
      have hs : x.same = false := by unfold On.same; rw [hw]; rfl
      rw [relO_new h hs]
      unfold On.dn
      simp [hw]
    | cons j t =>
      cases hs : x.same with
      | true =>
        rw [relO_same h hs]
        unfold On.dn
        simp only [hw, if_neg (List.cons_ne_nil j t)]
        cases hb : bump (relN x b) (j :: t) with
        | nil => cases t <;> simp [bump] at hb
        | cons c d =>
          obtain ⟨j', t', hw', hl, _⟩ := bump_head hb
          simp only [List.cons.injEq] at hw'
          show c.l - x.lf = j.l - x.lf
          rw [← hl, ← hw'.1]
      | false =>
        rw [relO_new h hs]
        unfold On.dn
        simp [hw]
theorem relO_abs {x : On} {c : Crs} (h : Abs x c) (b : Int) : Abs (relO x b) c := ⟨h.rows.trans (relO_rws x b).symm, h.done.trans (relO_dn x b).symm⟩
/-- The first job that is not done. -/
def On.jb (x : On) (i : Nat) : Jb := match x.w with
  | [] => ⟨i, x.nx, x.nx + x.e, x.l, x.r⟩
  | j :: _ => ⟨i, j.f, j.f + j.e, x.lf, j.r⟩
theorem Abs.hd {x : On} {c : Crs} (h : Abs x c) : (x.w = [] → c.hd = x.cur) ∧ (∀ j t, x.w = j :: t → c.hd = j.rw) := by
  have hr := h.rows
  constructor
  · intro hw
    have hs : x.same = false := by unfold On.same; rw [hw]; rfl
    unfold On.rws at hr
    rw [hs, hw] at hr
    have hr' : c.hd :: c.tl = [x.cur] := hr
    exact (List.cons.inj hr').1
  · intro j t hw
    unfold On.rws at hr
    rw [hw, List.map_cons, List.cons_append] at hr
    exact (List.cons.inj hr).1
theorem Abs.jb {x : On} {c : Crs} (h : Abs x c) (i : Nat) : c.jb i = x.jb i := by
  obtain ⟨h1, h2⟩ := h.hd
  have hd := h.done
  unfold On.dn at hd
  unfold Crs.jb Rw.jb On.jb
  cases hw : x.w with
  | nil =>
    rw [hw] at hd
    simp only at hd
    rw [h1 hw, hd]
    show Jb.mk _ _ _ _ _ = Jb.mk _ _ _ _ _
    simp [On.cur]
  | cons j t =>
    rw [hw] at hd
    simp only at hd
    rw [h2 j t hw, hd]
    show Jb.mk _ _ _ _ _ = Jb.mk _ _ _ _ _
    simp only [Jr.rw, Jb.mk.injEq, true_and, and_true]
    omega
end Go.Proofs.Ytjklaemhfhakhaa
/- The document's own plan: which job runs, until when, what a run and a Set leave. No program. -/
namespace Go.Proofs.Ytjklaemhfhakhaa

/-- Which of those that wait is ahead of all. -/
def bestN (X : Nat → On) : Nat → Option Nat
  | 0 => none
  | k + 1 => if (X k).w = [] then bestN X k else match bestN X k with
    | none => some k
    | some m => if ahB ((X k).jb k) ((X m).jb m) = true then some k else some m
theorem On.jb_named (X : Nat → On) (n : Nat) : Named n (fun i => (X i).jb i) := fun i _ => by
  show ((X i).jb i).task = _
  unfold On.jb
  split <;> rfl
theorem bestN_none {X : Nat → On} : ∀ {n : Nat}, bestN X n = none → ∀ i, i < n → (X i).w = []
  | 0, _, i, hi => by omega
  | n + 1, h, i, hi => by
    rw [bestN] at h
    by_cases q : (X n).w = []
    · rw [if_pos q] at h
      rcases Nat.lt_succ_iff_lt_or_eq.1 hi with h1 | rfl
      · exact bestN_none h i h1
      · exact q
    · rw [if_neg q] at h
      cases e : bestN X n with
      | none => rw [e] at h; cases h
      | some m =>
        rw [e] at h
        simp only at h
        split at h <;> cases h
theorem bestN_some {X : Nat → On} : ∀ {n m : Nat}, bestN X n = some m → m < n ∧ (X m).w ≠ [] ∧ ∀ i, i < n → i ≠ m → (X i).w ≠ [] → ahB ((X m).jb m) ((X i).jb i) = true
  | 0, _, h => by cases h
  | n + 1, m, h => by
    rw [bestN] at h
    by_cases q : (X n).w = []
    · rw [if_pos q] at h
      obtain ⟨h1, h2, h3⟩ := bestN_some h
      exact ⟨by omega, h2, fun i hi hne hw => h3 i (by
        rcases Nat.lt_succ_iff_lt_or_eq.1 hi with h4 | rfl
        · exact h4
        · exact absurd q hw) hne hw⟩
    · rw [if_neg q] at h
      cases e : bestN X n with
      | none =>
        rw [e] at h
        simp only [Option.some.injEq] at h
        subst h
        exact ⟨by omega, q, fun i hi hne hw => absurd (bestN_none e i (by omega)) hw⟩
      | some m' =>
        rw [e] at h
        simp only at h
        obtain ⟨h1, h2, h3⟩ := bestN_some e
        by_cases c : ahB ((X n).jb n) ((X m').jb m') = true
        · rw [if_pos c] at h
          simp only [Option.some.injEq] at h
          subst h
          refine ⟨by omega, q, fun i hi hne hw => ?_⟩
          by_cases e2 : i = m'
          · subst e2; exact c
          · exact ah_trans c (h3 i (by omega) e2 hw)
        · rw [if_neg c] at h
          simp only [Option.some.injEq] at h
          subst h
          refine ⟨by omega, h2, fun i hi hne hw => ?_⟩
          rcases Nat.lt_succ_iff_lt_or_eq.1 hi with h4 | rfl
          · exact h3 i h4 hne hw
          · rcases ah_total (On.jb_named X (i + 1)) (show i < i + 1 by omega) (show m' < i + 1 by omega) (by omega) with h5 | h5
            · exact absurd h5 c
            · exact h5
theorem past_head {a : Int} : ∀ {w : List Jr} {nx : Int} {j : Jr} {t : List Jr}, w = j :: t → past a w → chain nx w → (∀ j ∈ w, MayT j.e j.l ∧ 1 ≤ j.k ∧ 0 ≤ j.f) → j.f ≤ a
  | [], _, _, _, h, _, _, _ => by cases h
  | [b], nx, j, t, h, hp, _, hm => by
    obtain ⟨rfl, _⟩ := List.cons.inj h
    obtain ⟨⟨m1, m2, _⟩, m3, _⟩ := hm b (by simp)
    have hp' : b.f + (b.k - 1) * b.e ≤ a := hp
    have := Int.mul_nonneg (show 0 ≤ b.k - 1 by omega) (show 0 ≤ b.e by omega)
    omega
  | b :: c :: u, nx, j, t, h, hp, hc, hm => by
    obtain ⟨rfl, _⟩ := List.cons.inj h
    have ih := past_head (w := c :: u) (nx := nx) rfl hp hc.2 (fun j hj => hm j (List.mem_cons_of_mem _ hj))
    obtain ⟨⟨m1, m2, _⟩, m3, _⟩ := hm b (by simp)
    have h1 : b.f + b.k * b.e = c.f := hc.1
    have := Int.mul_nonneg (show 0 ≤ b.k by omega) (show 0 ≤ b.e by omega)
    omega
theorem On.Ok.head {x : On} {a : Int} (h : x.Ok a) {j : Jr} {t : List Jr} (hw : x.w = j :: t) : j.f ≤ a := past_head hw h.pa h.ch h.jm
theorem On.frm {x : On} {i : Nat} : (x.w = [] → (x.jb i).frm = x.nx) ∧ (∀ j t, x.w = j :: t → (x.jb i).frm = j.f) := by
  unfold On.jb
  refine ⟨fun h => by rw [h], fun j t h => by rw [h]⟩
/-- All tasks of one plan and of the other one. -/
def AllAbs (n : Nat) (X : Nat → On) (p : Pl) : Prop := ∀ i, i < n → Abs (X i) (p.c i)
/-- All that is released by then waits. -/
def Rel (n : Nat) (X : Nat → On) (f : Int) : Prop := ∀ i, i < n → (X i).Ok f ∧ f < (X i).nx
theorem runs_of {n : Nat} {X : Nat → On} {p : Pl} {f : Int} {m : Nat} (ha : AllAbs n X p) (hr : Rel n X f) (hb : bestN X n = some m) (hn : p.now ≤ f) (hf : f = p.now ∨ ∀ i, i < n → f ≤ (p.J i).frm) : Runs n p.J p.now m f := by
  obtain ⟨h1, h2, h3⟩ := bestN_some hb
  have hJ : ∀ i, i < n → p.J i = (X i).jb i := fun i hi => (ha i hi).jb i
  have hfr : ∀ i, i < n → (X i).w ≠ [] → (p.J i).frm ≤ f := fun i hi hw => by
    cases e : (X i).w with
    | nil => exact absurd e hw
    | cons j t =>
      rw [hJ i hi, On.frm.2 j t e]
      exact (hr i hi).1.head e
  have hidle : ∀ i, i < n → (p.J i).frm ≤ f → (X i).w ≠ [] := fun i hi h e => by
    rw [hJ i hi, On.frm.1 e] at h
    have := (hr i hi).2
    omega
  have hm := hfr m h1 h2
  refine ⟨h1, ?_, fun i hi => ?_, fun i hi hne e => ?_⟩
  · rcases hf with q | q
    · omega
    · have := q m h1; omega
  · rcases hf with q | q
    · omega
    · have := q i hi; omega
  · have hw : (X i).w ≠ [] := hidle i hi (by omega)
    have := h3 i hi hne hw
    rwa [← hJ m h1, ← hJ i hi] at this
/-- Until when, as the document's plan reckons it. -/
def toN (X : Nat → On) (m : Nat) (z : Int) : Nat → Int
  | 0 => z
  | k + 1 => if k ≠ m ∧ (X k).w = [] ∧ ahB ((X k).jb k) ((X m).jb m) = true then min (toN X m z k) (X k).nx else toN X m z k
theorem toN_eq {n : Nat} {X : Nat → On} {p : Pl} {m : Nat} {z : Int} (ha : AllAbs n X p) (hm : m < n) (h3 : ∀ i, i < n → i ≠ m → (X i).w ≠ [] → ahB ((X m).jb m) ((X i).jb i) = true) : ∀ k, k ≤ n → toN X m z k = endN p.J (p.J m) z k
  | 0, _ => rfl
  | k + 1, hk => by
    have ih := toN_eq (z := z) ha hm h3 k (by omega)
    have hJ : ∀ i, i < n → p.J i = (X i).jb i := fun i hi => (ha i hi).jb i
    rw [toN, endN, ih, hJ k (by omega), hJ m hm]
    by_cases e : k = m
    · subst e
      rw [if_neg (fun q => q.1 rfl), ah_irrefl, if_neg (by simp)]
    · by_cases w0 : (X k).w = []
      · by_cases c : ahB ((X k).jb k) ((X m).jb m) = true
        · rw [if_pos ⟨e, w0, c⟩, if_pos c, On.frm.1 w0]
        · rw [if_neg (fun q => c q.2.2), if_neg c]
      · have := h3 k (by omega) e w0
        rw [if_neg (fun q => w0 q.2.1), ah_asymm this, if_neg (by simp)]
/-- A run of some ticks. -/
def runO (x : On) (d : Int) : On := match x.w with
  | [] => x
  | j :: t => if 0 < x.lf - d then ⟨x.e, x.l, x.r, x.nx, x.w, x.lf - d⟩
    else if j.k - 1 = 0 then ⟨x.e, x.l, x.r, x.nx, t, match t with | [] => x.lf - d | j' :: _ => j'.l⟩
    else ⟨x.e, x.l, x.r, x.nx, ⟨j.f + j.e, j.k - 1, j.e, j.l, j.r⟩ :: t, j.l⟩
theorem same_tail {e l r f k : Int} {j : Jr} {t : List Jr} : sameL e l r (⟨f, k, j.e, j.l, j.r⟩ :: t) = sameL e l r (j :: t) := by
  cases t <;> rfl
theorem run_abs {x : On} {c : Crs} {a d : Int} (h : Abs x c) (ho : x.Ok a) {j : Jr} {t : List Jr} (hw : x.w = j :: t) (hd : d ≤ x.lf) : Abs (runO x d) (c.work d) := by
  obtain ⟨l1, l2⟩ := ho.lf j t hw
  have hhd : c.hd = j.rw := h.hd.2 j t hw
  have hdn : c.done = j.l - x.lf := by rw [h.done]; unfold On.dn; rw [hw]
  have hr := h.rows
  unfold On.rws On.same at hr
  rw [hw, List.map_cons, List.cons_append] at hr
  have htl : c.tl = t.map Jr.rw ++ (if sameL x.e x.l x.r (j :: t) = true then [] else [x.cur]) := (List.cons.inj hr).2
  obtain ⟨⟨m1, m2, m3⟩, m4, m5⟩ := ho.jm j (by rw [hw]; simp)
  unfold runO
  simp only [hw]
  unfold Crs.work
  rw [hhd, hdn]
  by_cases q : 0 < x.lf - d
  · rw [if_pos q, if_pos (by show j.l - x.lf + d < j.l; omega)]
    refine ⟨?_, ?_⟩
    · show j.rw :: c.tl = List.map Jr.rw (j :: t) ++ if sameL x.e x.l x.r (j :: t) = true then [] else [x.cur]
      rw [htl]; rfl
    · show j.l - x.lf + d = j.l - (x.lf - d)
      omega
  · have q2 : ¬ j.l - x.lf + d < j.rw.l := by show ¬ j.l - x.lf + d < j.l; omega
    rw [if_neg q, if_neg q2, htl]
    have hch := ho.ch
    rw [hw] at hch
    by_cases k1 : j.k - 1 = 0
    · rw [if_pos k1]
      have hk : j.k = 1 := by omega
      cases t with
      | nil =>
        have hc : j.f + j.k * j.e = x.nx := hch
        rw [hk, Int.one_mul] at hc
        by_cases hs : sameL x.e x.l x.r [j] = true
        · rw [if_pos hs]
          simp only [sameL, decide_eq_true_eq] at hs
          refine ⟨?_, rfl⟩
          show (⟨j.f + j.e, j.e, j.l, j.r⟩ : Rw) :: [] = [] ++ [⟨x.nx, x.e, x.l, x.r⟩]
          rw [hc, hs.1, hs.2.1, hs.2.2]; rfl
        · rw [if_neg hs]
          have : (nextC j.rw [x.cur]) = ⟨x.cur, [], 0⟩ := by
            show (if j.f + j.e = x.nx then _ else _) = _
            rw [if_pos hc]
          show Abs _ (nextC j.rw [x.cur])
          rw [this]
          exact ⟨rfl, rfl⟩
      | cons j' u =>
        have hc : j.f + j.k * j.e = j'.f := hch.1
        rw [hk, Int.one_mul] at hc
        have : nextC j.rw (List.map Jr.rw (j' :: u) ++ if sameL x.e x.l x.r (j :: j' :: u) = true then [] else [x.cur]) = ⟨j'.rw, List.map Jr.rw u ++ (if sameL x.e x.l x.r (j' :: u) = true then [] else [x.cur]), 0⟩ := by
          show (if j.f + j.e = j'.f then _ else _) = _
          rw [if_pos hc]
          rfl
        rw [this]
        refine ⟨rfl, ?_⟩
        show (0 : Int) = j'.l - j'.l
        omega
    · rw [if_neg k1]
      have hne : ∀ y, (j.f + j.k * j.e = y) → j.f + j.e ≠ y := fun y hy e => by
        have h2 : j.e * (j.k - 1) = j.k * j.e - j.e := by grind
        have h3 := Int.mul_pos (show 0 < j.e by omega) (show 0 < j.k - 1 by omega)
        omega
      have key : nextC j.rw (List.map Jr.rw t ++ if sameL x.e x.l x.r (j :: t) = true then [] else [x.cur]) = ⟨⟨j.f + j.e, j.e, j.l, j.r⟩, List.map Jr.rw t ++ (if sameL x.e x.l x.r (j :: t) = true then [] else [x.cur]), 0⟩ := by
        cases t with
        | nil =>
          by_cases hs : sameL x.e x.l x.r [j] = true
          · rw [if_pos hs]; rfl
          · rw [if_neg hs]
            show (if j.f + j.e = x.nx then _ else _) = _
            rw [if_neg (hne _ hch)]
            rfl
        | cons j' u =>
          show (if j.f + j.e = j'.f then _ else _) = _
          rw [if_neg (hne _ hch.1)]
          rfl
      rw [key]
      refine ⟨?_, ?_⟩
      · show (⟨j.f + j.e, j.e, j.l, j.r⟩ : Rw) :: _ = List.map Jr.rw (⟨j.f + j.e, j.k - 1, j.e, j.l, j.r⟩ :: t) ++ if sameL x.e x.l x.r (⟨j.f + j.e, j.k - 1, j.e, j.l, j.r⟩ :: t) = true then [] else [x.cur]
        rw [show sameL x.e x.l x.r (⟨j.f + j.e, j.k - 1, j.e, j.l, j.r⟩ :: t) = sameL x.e x.l x.r (j :: t) from same_tail]
        rfl
      · show (0 : Int) = j.l - j.l
        omega
theorem past_tail {a : Int} {j b : Jr} {t : List Jr} (h : past a (j :: b :: t)) : past a (b :: t) := h
theorem run_ok {x : On} {a d : Int} (ho : x.Ok a) {j : Jr} {t : List Jr} (hw : x.w = j :: t) (h0 : 0 ≤ d) : (runO x d).Ok a ∧ (runO x d).nx = x.nx := by
  obtain ⟨l1, l2⟩ := ho.lf j t hw
  have hj := ho.jm j (by rw [hw]; simp)
  obtain ⟨⟨m1, m2, m3⟩, m4, m5⟩ := hj
  have hch := ho.ch
  have hpa := ho.pa
  have hjm := ho.jm
  rw [hw] at hch hpa hjm
  unfold runO
  simp only [hw]
  by_cases q : 0 < x.lf - d
  · rw [if_pos q]
    refine ⟨⟨ho.may, by rw [← hw] at hjm; rw [hw] at hjm; exact hjm, hch, hpa, fun j' t' e => ?_, ho.lo⟩, rfl⟩
    change j :: t = j' :: t' at e
    rw [← (List.cons.inj e).1]
    exact ⟨by show 1 ≤ x.lf - d; omega, by show x.lf - d ≤ j.l; omega⟩
  · rw [if_neg q]
    by_cases k1 : j.k - 1 = 0
    · rw [if_pos k1]
      cases t with
      | nil => exact ⟨⟨ho.may, fun y hy => (by cases hy), trivial, trivial, fun j' t' e => (by cases e), ho.lo⟩, rfl⟩
      | cons j' u =>
        refine ⟨⟨ho.may, fun y hy => hjm y (List.mem_cons_of_mem _ hy), hch.2, hpa, fun b t' e => ?_, ho.lo⟩, rfl⟩
        rw [← (List.cons.inj e).1]
        obtain ⟨⟨n1, n2, n3⟩, _⟩ := hjm j' (by simp)
        exact ⟨n1, Int.le_refl _⟩
    · rw [if_neg k1]
      refine ⟨⟨ho.may, fun y hy => ?_, ?_, ?_, fun b t' e => ?_, ho.lo⟩, rfl⟩
      · rcases List.mem_cons.1 hy with rfl | hy
        · exact ⟨⟨m1, m2, m3⟩, by show 1 ≤ j.k - 1; omega, by show 0 ≤ j.f + j.e; omega⟩
        · exact hjm y (List.mem_cons_of_mem _ hy)
      · have e : j.f + j.e + (j.k - 1) * j.e = j.f + j.k * j.e := by grind
        cases t with
        | nil => exact e.trans hch
        | cons b u => exact ⟨e.trans hch.1, hch.2⟩
      · cases t with
        | nil =>
          have hp : j.f + (j.k - 1) * j.e ≤ a := hpa
          show j.f + j.e + (j.k - 1 - 1) * j.e ≤ a
          have : j.f + j.e + (j.k - 1 - 1) * j.e = j.f + (j.k - 1) * j.e := by grind
          omega
        | cons b u => exact hpa
      · rw [← (List.cons.inj e).1]
        exact ⟨m1, Int.le_refl _⟩
end Go.Proofs.Ytjklaemhfhakhaa

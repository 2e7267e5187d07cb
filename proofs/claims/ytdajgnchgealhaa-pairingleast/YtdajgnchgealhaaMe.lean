/- What search and move keep: no program. -/
import Derived.Test.YtdajgnchgealhaaMd
namespace Go.Proofs.Ytdajgnchgealhaa
open Go.ChangeShapes Go.WideShapes Go.ChangeAt Go.RowKit

/-- Every row has a column, every column a row. -/
structure Per (n : Nat) (s : Sq) : Prop where
  m : ∀ i, i < n → ∃ j : Nat, j < n ∧ s.m i = j ∧ s.o j = i
  o : ∀ j, j < n → ∃ i : Nat, i < n ∧ s.o j = i ∧ s.m i = j
theorem Inv.per {n : Nat} {s : Sq} (h : Inv n n s) : Per n s := by
  have hm : ∀ i, i < n → ∃ j : Nat, j < n ∧ s.m i = j ∧ s.o j = i := fun i hi => by
    rcases h.mt.m i hi with e | e
    · have := (h.un i hi).1 e; omega
    · exact e
  refine ⟨hm, fun j hj => ?_⟩
  rcases h.mt.o j hj with e | e
  · exfalso
    have := pigeon n (n - 1) (fun i => if (s.m i).toNat < j then (s.m i).toNat else (s.m i).toNat - 1) (fun a ha => by
      obtain ⟨x, h1, h2, h3⟩ := hm a ha
      have : x ≠ j := fun e2 => by rw [e2, e] at h3; omega
      show (if (s.m a).toNat < j then (s.m a).toNat else (s.m a).toNat - 1) < n - 1
      rw [h2, Int.toNat_natCast]
      split <;> omega) (fun a b ha hb he => by
      obtain ⟨x, h1, h2, h3⟩ := hm a ha
      obtain ⟨y, h4, h5, h6⟩ := hm b hb
      have e1 : x ≠ j := fun e2 => by rw [e2, e] at h3; omega
      have e2 : y ≠ j := fun e2 => by rw [e2, e] at h6; omega
      revert he
      show (if (s.m a).toNat < j then (s.m a).toNat else (s.m a).toNat - 1) = (if (s.m b).toNat < j then (s.m b).toNat else (s.m b).toNat - 1) → _
      rw [h2, h5, Int.toNat_natCast, Int.toNat_natCast]
      intro he
      have : x = y := by split at he <;> split at he <;> omega
      subst this
      omega)
    omega
  · exact e
theorem Per.inj {n : Nat} {s : Sq} (h : Per n s) {x y : Nat} (hx : x < n) (hy : y < n) (he : s.m x = s.m y) : x = y := by
  obtain ⟨j, h1, h2, h3⟩ := h.m x hx
  obtain ⟨j', h4, h5, h6⟩ := h.m y hy
  have : j = j' := by omega
  subst this
  omega
/-- May a row go to a column, for the sake of another row? -/
def may (s : Sq) (x j row : Nat) : Bool := mayB s x j row (s.m x).toNat
/-- While search goes on: l columns are reached, the p-th is gone over, up to the row t. -/
structure Se (n row held : Nat) (s0 s : Sq) (l p t : Nat) : Prop where
  same : s.c = s0.c ∧ s.u = s0.u ∧ s.v = s0.v ∧ s.m = s0.m ∧ s.o = s0.o
  l1 : 1 ≤ l
  pl : p ≤ l
  r0 : s.r 0 = held
  rc : ∀ a, a < l → ∃ j : Nat, j < n ∧ s.r a = j
  ri : ∀ a b, a < l → b < l → s.r a = s.r b → a = b
  ra : ∀ a, 0 < a → a < l → ∃ x : Nat, x < n ∧ s0.m x = s.r a ∧ s.f x ≠ -1
  fx : ∀ x, x < n → s.f x = -1 ∨ (x ≠ row ∧ ∃ a a' j : Nat, a < l ∧ s0.m x = s.r a ∧ a' < a ∧ s.r a' = j ∧ s.f x = j ∧ may s0 x j row = true)
  co : ∀ a j x : Nat, a < l → s.r a = j → x < n → x ≠ row → s.f x = -1 → (a < p ∨ a = p ∧ x < t) → may s0 x j row = false
theorem Se.room {n row held : Nat} {s0 s : Sq} {l p t : Nat} (h : Se n row held s0 s l p t) (hp : Per n s0) (hrow : s0.m row = held) (hrn : row < n) (ht : t < n) (htr : t ≠ row) (hf : s.f t = -1) : l < n ∧ ∀ a, a < l → s.r a ≠ s0.m t := by
  have hne : ∀ a, a < l → s.r a ≠ s0.m t := fun a ha e => by
    by_cases h0 : a = 0
    · subst h0
      rw [h.r0, ← hrow] at e
      exact htr (hp.inj ht hrn e.symm)
    · obtain ⟨x, h1, h2, h3⟩ := h.ra a (by omega) ha
      have := hp.inj h1 ht (by rw [h2, e])
      subst this
      exact h3 hf
  refine ⟨?_, hne⟩
  obtain ⟨jt, hj1, hj2, hj3⟩ := hp.m t ht
  have := pigeon (l + 1) n (fun a => if a = l then jt else (s.r a).toNat) (fun a ha => by
    show (if a = l then jt else (s.r a).toNat) < n
    split
    · exact hj1
    · obtain ⟨j, h1, h2⟩ := h.rc a (by omega)
      rw [h2, Int.toNat_natCast]; exact h1) (fun a b ha hb he => by
    revert he
    show (if a = l then jt else (s.r a).toNat) = (if b = l then jt else (s.r b).toNat) → _
    intro he
    split at he <;> split at he
    · omega
    · obtain ⟨j, h1, h2⟩ := h.rc b (by omega)
      have := hne b (by omega)
      omega
    · obtain ⟨j, h1, h2⟩ := h.rc a (by omega)
      have := hne a (by omega)
      omega
    · obtain ⟨j, h1, h2⟩ := h.rc a (by omega)
      obtain ⟨j', h3, h4⟩ := h.rc b (by omega)
      exact h.ri a b (by omega) (by omega) (by omega))
  omega
/-- The row t is taken. -/
theorem Se.take {n row held : Nat} {s0 s : Sq} {l p t j : Nat} (h : Se n row held s0 s l p t) (hp : Per n s0) (hrow : s0.m row = held) (hrn : row < n) (ht : t < n) (htr : t ≠ row) (hf : s.f t = -1) (hpl : p < l) (hj : s.r p = j) (hm : may s0 t j row = true) : Se n row held s0 { s with f := upd s.f t j, r := upd s.r l (s0.m t) } (l + 1) p (t + 1) := by
  obtain ⟨hl, hne⟩ := h.room hp hrow hrn ht htr hf
  have hr : ∀ a, a < l → upd s.r l (s0.m t) a = s.r a := fun a ha => upd_ne _ _ (by omega)
  have hfu : ∀ x, x ≠ t → upd s.f t j x = s.f x := fun x hx => upd_ne _ _ hx
  refine ⟨h.same, by omega, by have := h.pl; omega, ?_, fun a ha => ?_, fun a b ha hb he => ?_, fun a h0 ha => ?_, fun x hx => ?_, fun a j' x ha hj' hx hxr hfx hor => ?_⟩
  · show upd s.r l (s0.m t) 0 = _
    rw [hr 0 (by have := h.l1; omega)]; exact h.r0
  · show ∃ j : Nat, j < n ∧ upd s.r l (s0.m t) a = j
    by_cases e : a = l
    · obtain ⟨jt, hj1, hj2, hj3⟩ := hp.m t ht
      subst e
      exact ⟨jt, hj1, by rw [upd_at]; exact hj2⟩
    · rw [hr a (by omega)]; exact h.rc a (by omega)
  · revert he
    show upd s.r l (s0.m t) a = upd s.r l (s0.m t) b → _
    intro he
    by_cases e1 : a = l
    · by_cases e2 : b = l
      · omega
      · rw [e1, upd_at, hr b (by omega)] at he
        exact absurd he.symm (hne b (by omega))
    · by_cases e2 : b = l
      · rw [e2, upd_at, hr a (by omega)] at he
        exact absurd he (hne a (by omega))
      · rw [hr a (by omega), hr b (by omega)] at he
        exact h.ri a b (by omega) (by omega) he
  · show ∃ x : Nat, x < n ∧ s0.m x = upd s.r l (s0.m t) a ∧ upd s.f t j x ≠ -1
    by_cases e : a = l
    · subst e
      exact ⟨t, ht, by rw [upd_at], by rw [upd_at]; omega⟩
    · obtain ⟨x, h1, h2, h3⟩ := h.ra a h0 (by omega)
      exact ⟨x, h1, by rw [hr a (by omega)]; exact h2, by rw [hfu x (fun e2 => h3 (by rw [e2]; exact hf))]; exact h3⟩
  · show upd s.f t j x = -1 ∨ (x ≠ row ∧ ∃ a a' j_1 : Nat, a < l + 1 ∧ s0.m x = upd s.r l (s0.m t) a ∧ a' < a ∧ upd s.r l (s0.m t) a' = j_1 ∧ upd s.f t j x = j_1 ∧ may s0 x j_1 row = true)
    by_cases e : x = t
    · subst e
      exact Or.inr ⟨htr, l, p, j, by omega, by rw [upd_at], hpl, by rw [hr p hpl]; exact hj, upd_at _ _ _, hm⟩
    · rw [hfu x e]
      rcases h.fx x hx with h1 | ⟨h1, a, a', j', h2, h3, h4, h5, h6, h7⟩
      · exact Or.inl h1
      · exact Or.inr ⟨h1, a, a', j', by omega, by rw [hr a h2]; exact h3, h4, by rw [hr a' (by omega)]; exact h5, h6, h7⟩
  · have hfx' : upd s.f t j x = -1 := hfx
    have hj'' : upd s.r l (s0.m t) a = j' := hj'
    have hxt : x ≠ t := fun e => by rw [e, upd_at] at hfx'; omega
    rw [hfu x hxt] at hfx'
    have hal : a < l := by omega
    rw [hr a hal] at hj''
    exact h.co a j' x hal hj'' hx hxr hfx' (by omega)
/-- The row t is passed over. -/
theorem Se.skip {n row held : Nat} {s0 s : Sq} {l p t j : Nat} (h : Se n row held s0 s l p t) (hj : s.r p = j) (hno : t = row ∨ s.f t ≠ -1 ∨ may s0 t j row = false) : Se n row held s0 s l p (t + 1) := by
  refine ⟨h.same, h.l1, h.pl, h.r0, h.rc, h.ri, h.ra, h.fx, fun a j' x ha hj' hx hxr hfx hor => ?_⟩
  by_cases e : a = p ∧ x = t
  · obtain ⟨rfl, rfl⟩ := e
    have : j = j' := by omega
    subst this
    rcases hno with h1 | h1 | h1
    · exact absurd h1 hxr
    · exact absurd hfx h1
    · exact h1
  · exact h.co a j' x ha hj' hx hxr hfx (by omega)
theorem Se.nextP {n row held : Nat} {s0 s : Sq} {l p : Nat} (h : Se n row held s0 s l p n) (hp : p < l) : Se n row held s0 s l (p + 1) 0 :=
  ⟨h.same, h.l1, by omega, h.r0, h.rc, h.ri, h.ra, h.fx, fun a j' x ha hj' hx hxr hfx hor => h.co a j' x ha hj' hx hxr hfx (by omega)⟩
/-- How rows could go on, each by one that is nearer to the column that comes free. -/
def From (n row held : Nat) (s0 s : Sq) (ρ : Nat → Nat) : Prop := ∀ x, x < n → s.f x = -1 ∨ (x ≠ row ∧ ∃ j : Nat, j < n ∧ s.f x = j ∧ may s0 x j row = true ∧ (j = held ∨ ∃ y : Nat, y < n ∧ s0.o j = y ∧ s.f y ≠ -1 ∧ ρ y < ρ x))
/-- What search leaves. -/
structure Srch (n row first held : Nat) (s0 s : Sq) : Prop where
  same : s.c = s0.c ∧ s.u = s0.u ∧ s.v = s0.v ∧ s.m = s0.m ∧ s.o = s0.o
  fr : ∃ ρ, From n row held s0 s ρ
  co : (∃ x : Nat, x < n ∧ s0.m x = first ∧ s.f x ≠ -1) ∨ ∀ r j : Nat, r < n → j < n → r ≠ row → s.f r = -1 → (j = held ∨ ∃ x : Nat, x < n ∧ s0.m x = j ∧ s.f x ≠ -1) → may s0 r j row = false
theorem Se.rank {n row held : Nat} {s0 s : Sq} {l p t : Nat} (h : Se n row held s0 s l p t) : ∃ ρ : Nat → Nat, (∀ x a, a < l → s0.m x = s.r a → ρ x = a) ∧ ∀ x, (∀ a, a < l → s0.m x ≠ s.r a) → ρ x = l := by
  classical
  refine ⟨fun x => if hx : ∃ a, a < l ∧ s0.m x = s.r a then Classical.choose hx else l, fun x a ha he => ?_, fun x hx => ?_⟩
  · have hx : ∃ a, a < l ∧ s0.m x = s.r a := ⟨a, ha, he⟩
    show (if hx : ∃ a, a < l ∧ s0.m x = s.r a then Classical.choose hx else l) = a
    rw [dif_pos hx]
    have := Classical.choose_spec hx
    exact h.ri _ _ this.1 ha (by rw [← this.2, he])
  · show (if hx : ∃ a, a < l ∧ s0.m x = s.r a then Classical.choose hx else l) = l
    rw [dif_neg (fun ⟨a, h1, h2⟩ => hx a h1 h2)]
theorem Se.from' {n row held : Nat} {s0 s : Sq} {l p t : Nat} (h : Se n row held s0 s l p t) (hp : Per n s0) {ρ : Nat → Nat} (hρ : ∀ x a, a < l → s0.m x = s.r a → ρ x = a) : From n row held s0 s ρ := fun x hx => by
  rcases h.fx x hx with h1 | ⟨h1, a, a', j, h2, h3, h4, h5, h6, h7⟩
  · exact Or.inl h1
  · obtain ⟨j', hj1, hj2⟩ := h.rc a' (by omega)
    have : j = j' := by omega
    subst this
    refine Or.inr ⟨h1, j, hj1, h6, h7, ?_⟩
    by_cases e : a' = 0
    · subst e
      rw [h.r0] at h5
      exact Or.inl (by omega)
    · obtain ⟨y, k1, k2, k3⟩ := h.ra a' (by omega) (by omega)
      refine Or.inr ⟨y, k1, ?_, k3, ?_⟩
      · obtain ⟨z, z1, z2, z3⟩ := hp.m y k1
        have : z = j := by omega
        subst this
        exact z3
      · rw [hρ y a' (by omega) k2, hρ x a h2 h3]; exact h4
theorem Se.done {n row first held : Nat} {s0 s : Sq} {l : Nat} (h : Se n row held s0 s l l 0) (hp : Per n s0) : Srch n row first held s0 s := by
  obtain ⟨ρ, h1, h2⟩ := h.rank
  refine ⟨h.same, ⟨ρ, h.from' hp h1⟩, Or.inr fun r j hr hj hne hf hor => ?_⟩
  rcases hor with e | ⟨x, hx, hm, hfx⟩
  · exact h.co 0 j r (by have := h.l1; omega) (by rw [h.r0, e]) hr hne hf (Or.inl (by have := h.l1; omega))
  · rcases h.fx x hx with h3 | ⟨h3, a, a', j', h4, h5, _⟩
    · exact absurd h3 hfx
    · exact h.co a j r h4 (by rw [← h5, hm]) hr hne hf (Or.inl h4)
theorem Se.found {n row first held : Nat} {s0 s : Sq} {l p t j : Nat} (h : Se n row held s0 s l p t) (hp : Per n s0) (hrow : s0.m row = held) (hrn : row < n) (ht : t < n) (htr : t ≠ row) (hf : s.f t = -1) (hpl : p < l) (hj : s.r p = j) (hm : may s0 t j row = true) (hfi : s0.m t = first) : Srch n row first held s0 { s with f := upd s.f t j } := by
  obtain ⟨ρ, h1, h2⟩ := h.rank
  obtain ⟨hl, hne⟩ := h.room hp hrow hrn ht htr hf
  have hbase := h.from' hp h1
  have hρt : ρ t = l := h2 t (fun a ha e => hne a ha e.symm)
  refine ⟨h.same, ⟨ρ, fun x hx => ?_⟩, Or.inl ⟨t, ht, hfi, by show upd s.f t j t ≠ -1; rw [upd_at]; omega⟩⟩
  have hkeep : ∀ y, s.f y ≠ -1 → upd s.f t j y ≠ -1 := fun y hy => by
    by_cases e : y = t
    · rw [e, upd_at]; omega
    · rw [upd_ne _ _ e]; exact hy
  show upd s.f t j x = -1 ∨ (x ≠ row ∧ ∃ j_1 : Nat, j_1 < n ∧ upd s.f t j x = j_1 ∧ may s0 x j_1 row = true ∧ (j_1 = held ∨ ∃ y : Nat, y < n ∧ s0.o j_1 = y ∧ upd s.f t j y ≠ -1 ∧ ρ y < ρ x))
  by_cases e : x = t
  · subst e
    obtain ⟨j', hj1, hj2⟩ := h.rc p hpl
    have : j = j' := by omega
    subst this
    refine Or.inr ⟨htr, j, hj1, upd_at _ _ _, hm, ?_⟩
    by_cases e : p = 0
    · subst e
      rw [h.r0] at hj
      exact Or.inl (by omega)
    · obtain ⟨y, k1, k2, k3⟩ := h.ra p (by omega) hpl
      refine Or.inr ⟨y, k1, ?_, hkeep y k3, ?_⟩
      · obtain ⟨z, z1, z2, z3⟩ := hp.m y k1
        have : z = j := by omega
        subst this
        exact z3
      · rw [h1 y p hpl k2, hρt]; exact hpl
  · rw [upd_ne _ _ e]
    rcases hbase x hx with h3 | ⟨h3, j', h4, h5, h6, h7⟩
    · exact Or.inl h3
    · refine Or.inr ⟨h3, j', h4, h5, h6, ?_⟩
      rcases h7 with h7 | ⟨y, h7, h8, h9, h10⟩
      · exact Or.inl h7
      · exact Or.inr ⟨y, h7, h8, hkeep y h9, h10⟩
/-- While move goes on: the row x is to have the column y. -/
structure Mv (n row held j : Nat) (ρ : Nat → Nat) (s0 s : Sq) (x y : Nat) : Prop where
  same : s.c = s0.c ∧ s.u = s0.u ∧ s.v = s0.v ∧ s.f = s0.f
  hm : ∀ i, i < n → i ≠ x → ∃ k : Nat, k < n ∧ s.m i = k ∧ k ≠ held ∧ s.o k = i
  ho : ∀ k, k < n → k ≠ held → ∃ i : Nat, i < n ∧ i ≠ x ∧ s.o k = i ∧ s.m i = k
  nx : y = held ∨ ∃ z : Nat, z < n ∧ z ≠ x ∧ s.o y = z ∧ s0.o y = z ∧ s0.f z ≠ -1 ∧ (x = row ∨ ρ z < ρ x) ∧ ∀ i, i < n → i ≠ row → ρ i ≤ ρ z → s.m i = s0.m i
  at' : (x = row ∧ y = j) ∨ (x ≠ row ∧ s.m row = j ∧ s0.f x ≠ -1 ∧ s0.f x = y)
  res : ∀ i, i < n → i ≠ x → i ≠ row → s.m i = s0.m i ∨ (s0.f i ≠ -1 ∧ s.m i = s0.f i)
/-- When move is done. -/
structure Moved (n row j : Nat) (s0 s : Sq) : Prop where
  same : s.c = s0.c ∧ s.u = s0.u ∧ s.v = s0.v
  per : Per n s
  at' : s.m row = j
  res : ∀ i, i < n → i ≠ row → s.m i = s0.m i ∨ (s0.f i ≠ -1 ∧ s.m i = s0.f i)
theorem Mv.start {n row held j z : Nat} {ρ : Nat → Nat} {s0 : Sq} (hp : Per n s0) (hrow : s0.m row = held) (hrn : row < n) (hj : j < n) (hne : j ≠ held) (hz : s0.o j = z) (hf : s0.f z ≠ -1) : Mv n row held j ρ s0 s0 row j := by
  obtain ⟨z', h1, h2, h3⟩ := hp.o j hj
  have : z = z' := by omega
  subst this
  have hzr : z ≠ row := fun e => by rw [e, hrow] at h3; omega
  refine ⟨⟨rfl, rfl, rfl, rfl⟩, fun i hi hir => ?_, fun k hk hkh => ?_, Or.inr ⟨z, h1, hzr, hz, hz, hf, Or.inl rfl, fun _ _ _ _ => rfl⟩, Or.inl ⟨rfl, rfl⟩, fun _ _ _ _ => Or.inl rfl⟩
  · obtain ⟨k, k1, k2, k3⟩ := hp.m i hi
    exact ⟨k, k1, k2, fun e => hir (hp.inj hi hrn (by rw [k2, hrow, e])), k3⟩
  · obtain ⟨i, k1, k2, k3⟩ := hp.o k hk
    exact ⟨i, k1, fun e => by rw [e, hrow] at k3; omega, k2, k3⟩
/-- The last step. -/
theorem Mv.last {n row held j x : Nat} {ρ : Nat → Nat} {s0 s : Sq} (h : Mv n row held j ρ s0 s x held) (hx : x < n) (hh : held < n) (hne : j ≠ held) : Moved n row j s0 { s with m := upd s.m x held, o := upd s.o held x } := by
  have hxr : x ≠ row ∧ s.m row = j ∧ s0.f x ≠ -1 ∧ s0.f x = held := by
    rcases h.at' with ⟨_, h2⟩ | h2
    · exact absurd h2.symm hne
    · exact h2
  refine ⟨⟨h.same.1, h.same.2.1, h.same.2.2.1⟩, ⟨fun i hi => ?_, fun k hk => ?_⟩, ?_, fun i hi hir => ?_⟩
  · show ∃ k : Nat, k < n ∧ upd s.m x held i = k ∧ upd s.o held x k = i
    by_cases e : i = x
    · subst e
      exact ⟨held, hh, upd_at _ _ _, upd_at _ _ _⟩
    · obtain ⟨k, k1, k2, k3, k4⟩ := h.hm i hi e
      exact ⟨k, k1, by rw [upd_ne _ _ e]; exact k2, by rw [upd_ne _ _ k3]; exact k4⟩
  · show ∃ i : Nat, i < n ∧ upd s.o held x k = i ∧ upd s.m x held i = k
    by_cases e : k = held
    · subst e
      exact ⟨x, hx, upd_at _ _ _, upd_at _ _ _⟩
    · obtain ⟨i, k1, k2, k3, k4⟩ := h.ho k hk e
      exact ⟨i, k1, by rw [upd_ne _ _ e]; exact k3, by rw [upd_ne _ _ k2]; exact k4⟩
  · show upd s.m x held row = j
    rw [upd_ne _ _ (fun e => hxr.1 e.symm)]; exact hxr.2.1
  · show upd s.m x held i = s0.m i ∨ (s0.f i ≠ -1 ∧ upd s.m x held i = s0.f i)
    by_cases e : i = x
    · subst e
      exact Or.inr ⟨hxr.2.2.1, by rw [upd_at, hxr.2.2.2]⟩
    · rw [upd_ne _ _ e]; exact h.res i hi e hir
/-- A step that is not the last one. -/
theorem Mv.next {n row held j x y : Nat} {ρ : Nat → Nat} {s0 s : Sq} (h : Mv n row held j ρ s0 s x y) (hp : Per n s0) (hfr : From n row held s0 s0 ρ) (hx : x < n) (hy : y < n) (hne : y ≠ held) : ∃ z y' : Nat, z < n ∧ y' < n ∧ s.o y = z ∧ s0.f z = y' ∧ s0.o y = z ∧ Mv n row held j ρ s0 { s with m := upd s.m x y, o := upd s.o y x } z y' ∧ (y' = held ∨ ∃ z' : Nat, s0.o y' = z' ∧ ρ z' < ρ z) := by
  rcases h.nx with e | ⟨z, z1, z2, z3, z4, z5, z6, z7⟩
  · exact absurd e hne
  rcases hfr z z1 with e | ⟨f1, y', f2, f3, f4, f5⟩
  · exact absurd e z5
  have hymz : s.m z = y := by
    obtain ⟨i, i1, i2, i3, i4⟩ := h.ho y hy hne
    have : i = z := by omega
    subst this
    exact i4
  -- the next column's owner
  have hnx : y' = held ∨ ∃ z' : Nat, z' < n ∧ z' ≠ z ∧ upd s.o y x y' = z' ∧ s0.o y' = z' ∧ s0.f z' ≠ -1 ∧ (z = row ∨ ρ z' < ρ z) ∧ ∀ i, i < n → i ≠ row → ρ i ≤ ρ z' → upd s.m x y i = s0.m i := by
    rcases f5 with e | ⟨z', g1, g2, g3, g4⟩
    · exact Or.inl e
    · have hzr : z' ≠ row := fun e => by
        rcases hfr z' g1 with e2 | ⟨e2, _⟩
        · exact g3 e2
        · exact e2 e
      have hxz : ∀ i, ρ i ≤ ρ z' → i ≠ row → i ≠ x := fun i hi hir e => by
        subst e
        rcases z6 with e2 | e2
        · exact hir e2
        · omega
      have hmz : s0.m z' = y' := by
        obtain ⟨k, k1, k2, k3⟩ := hp.o y' f2
        have : k = z' := by omega
        subst this
        exact k3
      have hmz' : s.m z' = y' := by rw [z7 z' g1 hzr (by omega)]; exact hmz
      obtain ⟨k, k1, k2, k3, k4⟩ := h.hm z' g1 (hxz z' (Nat.le_refl _) hzr)
      have hky : k = y' := by omega
      subst hky
      have hyy : k ≠ y := fun e => by
        rw [e, z3] at k4
        have : z = z' := by omega
        subst this
        omega
      refine Or.inr ⟨z', g1, fun e => by subst e; omega, by rw [upd_ne _ _ hyy]; exact k4, g2, g3, Or.inr g4, fun i hi hir hrk => ?_⟩
      rw [upd_ne _ _ (hxz i hrk hir)]
      exact z7 i hi hir (by omega)
  refine ⟨z, y', z1, f2, z3, f3, z4, ⟨h.same, fun i hi hiz => ?_, fun k hk hkh => ?_, hnx, Or.inr ⟨f1, ?_, z5, f3⟩, fun i hi hiz hir => ?_⟩, ?_⟩
  · show ∃ k : Nat, k < n ∧ upd s.m x y i = k ∧ k ≠ held ∧ upd s.o y x k = i
    by_cases e : i = x
    · subst e
      exact ⟨y, hy, upd_at _ _ _, hne, upd_at _ _ _⟩
    · obtain ⟨k, k1, k2, k3, k4⟩ := h.hm i hi e
      exact ⟨k, k1, by rw [upd_ne _ _ e]; exact k2, k3, by rw [upd_ne _ _ (fun e2 => by rw [e2, z3] at k4; omega)]; exact k4⟩
  · show ∃ i : Nat, i < n ∧ i ≠ z ∧ upd s.o y x k = i ∧ upd s.m x y i = k
    by_cases e : k = y
    · subst e
      exact ⟨x, hx, fun e => z2 e.symm, upd_at _ _ _, upd_at _ _ _⟩
    · obtain ⟨i, i1, i2, i3, i4⟩ := h.ho k hk hkh
      exact ⟨i, i1, fun e2 => by rw [e2, hymz] at i4; omega, by rw [upd_ne _ _ e]; exact i3, by rw [upd_ne _ _ i2]; exact i4⟩
  · show upd s.m x y row = j
    rcases h.at' with ⟨e1, e2⟩ | ⟨e1, e2, _⟩
    · rw [← e1, upd_at, e2]
    · rw [upd_ne _ _ (fun e => e1 e.symm)]; exact e2
  · show upd s.m x y i = s0.m i ∨ (s0.f i ≠ -1 ∧ upd s.m x y i = s0.f i)
    by_cases e : i = x
    · subst e
      rcases h.at' with ⟨e1, _⟩ | ⟨_, _, e3, e4⟩
      · exact absurd e1 hir
      · exact Or.inr ⟨e3, by rw [upd_at, e4]⟩
    · rw [upd_ne _ _ e]; exact h.res i hi e hir
  · rcases f5 with e | ⟨z', g1, g2, g3, g4⟩
    · exact Or.inl e
    · exact Or.inr ⟨z', g2, g4⟩
end Go.Proofs.Ytdajgnchgealhaa

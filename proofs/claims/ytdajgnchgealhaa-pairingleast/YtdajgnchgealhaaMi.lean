/- Which of two pairings is better: no program. -/
import Derived.Test.YtdajgnchgealhaaMh
namespace Go.Proofs.Ytdajgnchgealhaa
open Go.ChangeShapes Go.WideShapes Go.ChangeAt Go.RowKit

theorem lq.trans {a b c : Int} (h : lq a b) (k : lq b c) : lq a c := by
  rcases h with h | ⟨h1, h2⟩ <;> rcases k with k | ⟨k1, k2⟩
  · exact Or.inl k
  · omega
  · exact Or.inl k
  · exact Or.inr ⟨h1, by omega⟩
theorem Ahd.refl (N : Nat) (f : Nat → Int) : Ahd N f f := fun _ _ _ => lq.refl _
theorem Ahd.trans {N : Nat} {a b c : Nat → Int} (h : Ahd N a b) (k : Ahd N b c) : Ahd N a c := fun i hi hac => by
  have hab : ∀ m, m ≤ i → ∀ i', i' < m → b i' = a i' := fun m => by
    induction m with
    | zero => intro _ i' hi'; omega
    | succ m ih =>
      intro hm i' hi'
      by_cases e : i' = m
      · subst e
        have h1 := h i' (by omega) (fun x hx => ih (by omega) x hx)
        have h2 := k i' (by omega) (fun x hx => by rw [hac x (by omega), ih (by omega) x hx])
        rw [hac i' (by omega)] at h2
        exact h2.anti h1
      · exact ih (by omega) i' (by omega)
  have h1 := h i hi (hab i (Nat.le_refl _))
  have h2 := k i hi (fun x hx => by rw [hac x hx, hab i (Nat.le_refl _) x hx])
  exact h1.trans h2
theorem Ahd.congr {N : Nat} {a b a' b' : Nat → Int} (h : Ahd N a b) (ha : ∀ i, i < N → a i = a' i) (hb : ∀ i, i < N → b i = b' i) : Ahd N a' b' := fun i hi hx => by
  rw [← ha i hi, ← hb i hi]
  exact h i hi (fun i' hi' => by rw [ha i' (by omega), hb i' (by omega)]; exact hx i' hi')
theorem Ahd.anti {N : Nat} {a b : Nat → Int} (h : Ahd N a b) (k : Ahd N b a) : ∀ i, i < N → a i = b i := by
  have key : ∀ m i, i < m → i < N → a i = b i := fun m => by
    induction m with
    | zero => intro i hi; omega
    | succ m ih =>
      intro i hi hN
      exact (h i hN (fun i' hi' => (ih i' (by omega) (by omega)).symm)).anti (k i hN (fun i' hi' => ih i' (by omega) (by omega)))
  exact fun i hi => key (i + 1) i (by omega) hi
/-- At least as good. -/
def Bt (N : Nat) (T : Nat → Nat → Int) (a b : Nat → Int) : Prop := cnt N b < cnt N a ∨ (cnt N b = cnt N a ∧ (tot N T a < tot N T b ∨ (tot N T a = tot N T b ∧ Ahd N a b)))
theorem Bt.refl (N : Nat) (T : Nat → Nat → Int) (a : Nat → Int) : Bt N T a a := Or.inr ⟨rfl, Or.inr ⟨rfl, Ahd.refl _ _⟩⟩
theorem Bt.trans {N : Nat} {T : Nat → Nat → Int} {a b c : Nat → Int} (h : Bt N T a b) (k : Bt N T b c) : Bt N T a c := by
  rcases h with h | ⟨h1, h2 | ⟨h2, h3⟩⟩ <;> rcases k with k | ⟨k1, k2 | ⟨k2, k3⟩⟩
  · exact Or.inl (by omega)
  · exact Or.inl (by omega)
  · exact Or.inl (by omega)
  · exact Or.inl (by omega)
  · exact Or.inr ⟨by omega, Or.inl (by omega)⟩
  · exact Or.inr ⟨by omega, Or.inl (by omega)⟩
  · exact Or.inl (by omega)
  · exact Or.inr ⟨by omega, Or.inl (by omega)⟩
  · exact Or.inr ⟨by omega, Or.inr ⟨by omega, h3.trans k3⟩⟩
theorem cnt_congr {N : Nat} {a b : Nat → Int} (h : ∀ i, i < N → a i = b i) : cnt N a = cnt N b := sumZ_congr fun i hi => by
  show (if a i = -1 then (0 : Int) else 1) = if b i = -1 then 0 else 1
  rw [h i hi]
theorem tot_congr {N : Nat} {T : Nat → Nat → Int} {a b : Nat → Int} (h : ∀ i, i < N → a i = b i) : tot N T a = tot N T b := sumZ_congr fun i hi => by
  show (if a i = -1 then (0 : Int) else T i (a i).toNat) = if b i = -1 then 0 else T i (b i).toNat
  rw [h i hi]
theorem Bt.congr {N : Nat} {T : Nat → Nat → Int} {a b a' b' : Nat → Int} (h : Bt N T a b) (ha : ∀ i, i < N → a i = a' i) (hb : ∀ i, i < N → b i = b' i) : Bt N T a' b' := by
  unfold Bt at h ⊢
  rw [← cnt_congr ha, ← cnt_congr hb, ← tot_congr ha, ← tot_congr hb]
  rcases h with h | ⟨h1, h2 | ⟨h2, h3⟩⟩
  · exact Or.inl h
  · exact Or.inr ⟨h1, Or.inl h2⟩
  · exact Or.inr ⟨h1, Or.inr ⟨h2, h3.congr ha hb⟩⟩
theorem IsP.congr {N : Nat} {R : Nat → Nat} {T : Nat → Nat → Int} {a b : Nat → Int} (h : IsP N R T a) (he : ∀ i, i < N → a i = b i) : IsP N R T b :=
  ⟨fun i hi => by rw [← he i hi]; exact h.at' i hi, fun i i' hi hi' e hne => by
    rw [← he i hi, ← he i' hi'] at e
    rw [← he i hi] at hne
    exact h.inj i i' hi hi' e hne⟩
/-- A pairing that is asked for: where all rows must have a mate, they have. -/
structure Cand (N : Nat) (R : Nat → Nat) (T : Nat → Nat → Int) (wh : Bool) (g : Nat → Int) : Prop where
  p : IsP N R T g
  f : wh = true → ∀ i, i < N → g i ≠ -1
/-- What is found so far is at least as good as all that go on from a list's first i rows. -/
structure Adv (N : Nat) (R : Nat → Nat) (T : Nat → Nat → Int) (wh : Bool) (P : (Nat → Int) → Prop) (fd fd' : Bool) (f f' : Nat → Int) : Prop where
  c : fd' = true → Cand N R T wh f'
  all : ∀ g, Cand N R T wh g → P g → fd' = true ∧ Bt N T f' g
  old : fd = true → fd' = true ∧ Bt N T f' f
theorem Adv.start {N : Nat} {R : Nat → Nat} {T : Nat → Nat → Int} {wh fd : Bool} {f : Nat → Int} (h : fd = true → Cand N R T wh f) : Adv N R T wh (fun _ => False) fd fd f f := ⟨h, fun _ _ e => absurd e (fun e => e), fun e => ⟨e, Bt.refl _ _ _⟩⟩
theorem Adv.and {N : Nat} {R : Nat → Nat} {T : Nat → Nat → Int} {wh fd1 fd2 fd3 : Bool} {f1 f2 f3 : Nat → Int} {P Q : (Nat → Int) → Prop} (h : Adv N R T wh P fd1 fd2 f1 f2) (k : Adv N R T wh Q fd2 fd3 f2 f3) {S : (Nat → Int) → Prop} (hs : ∀ g, Cand N R T wh g → S g → P g ∨ Q g) : Adv N R T wh S fd1 fd3 f1 f3 := by
  refine ⟨k.c, fun g hg hS => ?_, fun e => ?_⟩
  · rcases hs g hg hS with hP | hQ
    · obtain ⟨a1, a2⟩ := h.all g hg hP
      obtain ⟨b1, b2⟩ := k.old a1
      exact ⟨b1, b2.trans a2⟩
    · exact k.all g hg hQ
  · obtain ⟨a1, a2⟩ := h.old e
    obtain ⟨b1, b2⟩ := k.old a1
    exact ⟨b1, b2.trans a2⟩
theorem cnt_full {f : Nat → Int} : ∀ {N : Nat}, (∀ i, i < N → f i ≠ -1) → cnt N f = N
  | 0, _ => rfl
  | N + 1, h => by
    show cnt N f + (if f N = -1 then (0 : Int) else 1) = _
    rw [if_neg (h N (by omega)), cnt_full (fun i hi => h i (by omega))]
    omega
theorem full_of {f : Nat → Int} : ∀ {N : Nat}, cnt N f = N → ∀ i, i < N → f i ≠ -1
  | N + 1, h, i, hi => by
    have h' : cnt N f + (if f N = -1 then (0 : Int) else 1) = ((N + 1 : Nat) : Int) := h
    have hb := cnt_le f N
    by_cases e : f N = -1
    · rw [if_pos e] at h'
      omega
    · rw [if_neg e] at h'
      by_cases e2 : i = N
      · subst e2; exact e
      · exact full_of (N := N) (by omega) i (by omega)
/-- What is found at the end, without the condition, is the best. -/
theorem Adv.best {N : Nat} {R : Nat → Nat} {T : Nat → Nat → Int} {f f' : Nat → Int} {fd' : Bool} (h : Adv N R T false (fun _ => True) false fd' f f') : fd' = true ∧ Best N R T f' := by
  have h0 : Cand N R T false (fun _ => -1) := ⟨⟨fun i _ => Or.inl rfl, fun i i' _ _ _ hne => absurd rfl hne⟩, fun e => absurd e (by decide)⟩
  obtain ⟨e, _⟩ := h.all _ h0 trivial
  refine ⟨e, (h.c e).p, fun g hg => ?_, fun g hg hc => ?_, fun g hg hc ht => ?_⟩
  · rcases (h.all g ⟨hg, fun e => absurd e (by decide)⟩ trivial).2 with k | ⟨k, _⟩ <;> omega
  · rcases (h.all g ⟨hg, fun e => absurd e (by decide)⟩ trivial).2 with k | ⟨k, k2 | ⟨k2, _⟩⟩ <;> omega
  · rcases (h.all g ⟨hg, fun e => absurd e (by decide)⟩ trivial).2 with k | ⟨k, k2 | ⟨k2, k3⟩⟩
    · omega
    · omega
    · exact k3
/-- .. and with it, it is the best where the best has a mate for every row. -/
theorem Adv.whole {N : Nat} {R : Nat → Nat} {T : Nat → Nat → Int} {f f' b : Nat → Int} {fd' : Bool} (h : Adv N R T true (fun _ => True) false fd' f f') (hb : Best N R T b) : (cnt N b = N → fd' = true ∧ ∀ i, i < N → f' i = b i) ∧ (cnt N b < N → fd' = false) := by
  refine ⟨fun hc => ?_, fun hc => ?_⟩
  · obtain ⟨e, hbt⟩ := h.all b ⟨hb.p, fun _ => full_of hc⟩ trivial
    refine ⟨e, ?_⟩
    have hc' := cnt_full ((h.c e).f rfl)
    have hl := hb.least f' (h.c e).p (by omega)
    rcases hbt with k | ⟨k, k2 | ⟨k2, k3⟩⟩
    · omega
    · omega
    · exact k3.anti (hb.first f' (h.c e).p (by omega) (by omega))
  · cases fd' with
    | false => rfl
    | true =>
      have hc' := cnt_full ((h.c rfl).f rfl)
      have := hb.most f' (h.c rfl).p
      omega
end Go.Proofs.Ytdajgnchgealhaa

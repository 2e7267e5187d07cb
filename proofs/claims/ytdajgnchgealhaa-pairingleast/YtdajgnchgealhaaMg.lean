/- The square's answer is the table's best pairing: no program. -/
import Derived.Test.YtdajgnchgealhaaMf
import Derived.Test.YtdajgnchgealhaaBj
namespace Go.Proofs.Ytdajgnchgealhaa
open Go.ChangeShapes Go.WideShapes Go.ChangeAt Go.RowKit

def sumZ : Nat → (Nat → Int) → Int
  | 0, _ => 0
  | n + 1, f => sumZ n f + f n
theorem sumZ_congr : ∀ {n : Nat} {f g : Nat → Int}, (∀ i, i < n → f i = g i) → sumZ n f = sumZ n g
  | 0, _, _, _ => rfl
  | n + 1, f, g, h => by
    show sumZ n f + f n = sumZ n g + g n
    rw [sumZ_congr (fun i hi => h i (by omega)), h n (by omega)]
theorem sumZ_le : ∀ {n : Nat} {f g : Nat → Int}, (∀ i, i < n → f i ≤ g i) → sumZ n f ≤ sumZ n g
  | 0, _, _, _ => Int.le_refl _
  | n + 1, f, g, h => by
    show sumZ n f + f n ≤ sumZ n g + g n
    have := sumZ_le (n := n) (fun i hi => h i (by omega))
    have := h n (by omega)
    omega
theorem sumZ_add : ∀ (n : Nat) (f g : Nat → Int), sumZ n (fun i => f i + g i) = sumZ n f + sumZ n g
  | 0, _, _ => rfl
  | n + 1, f, g => by
    show sumZ n (fun i => f i + g i) + (f n + g n) = sumZ n f + f n + (sumZ n g + g n)
    rw [sumZ_add n f g]; omega
/-- Two sums that are the same, term by term at least: the terms are the same. -/
theorem sumZ_eq : ∀ {n : Nat} {f g : Nat → Int}, (∀ i, i < n → f i ≤ g i) → sumZ n g ≤ sumZ n f → ∀ i, i < n → f i = g i
  | n + 1, f, g, h, he, i, hi => by
    have h1 := sumZ_le (n := n) (fun i hi => h i (by omega))
    have h2 := h n (by omega)
    have he' : sumZ n g + g n ≤ sumZ n f + f n := he
    by_cases e : i = n
    · subst e; omega
    · exact sumZ_eq (n := n) (fun i hi => h i (by omega)) (by omega) i (by omega)
theorem sumZ_one : ∀ {n k : Nat} {f g : Nat → Int}, k < n → (∀ i, i < n → i ≠ k → f i = g i) → sumZ n f = sumZ n g - g k + f k
  | n + 1, k, f, g, hk, h => by
    show sumZ n f + f n = sumZ n g + g n - g k + f k
    by_cases e : k = n
    · subst e
      rw [sumZ_congr (n := k) (fun i hi => h i (by omega) (by omega))]
      omega
    · rw [sumZ_one (n := n) (k := k) (by omega) (fun i hi hne => h i (by omega) hne), h n (by omega) (by omega)]
      omega
theorem sumZ_perm : ∀ {n : Nat} {τ : Nat → Nat} (v : Nat → Int), (∀ i, i < n → τ i < n) → (∀ i j, i < n → j < n → τ i = τ j → i = j) → sumZ n (fun i => v (τ i)) = sumZ n v
  | 0, _, _, _, _ => rfl
  | n + 1, τ, v, h1, h2 => by
    have hk : ∃ k, k < n + 1 ∧ τ k = n := Classical.byContradiction fun hno => pigeon_miss (n := n + 1) (j := n) (g := τ) h1 h2 (fun a ha e => hno ⟨a, ha, e⟩) (by omega)
    obtain ⟨k, hk, hkn⟩ := hk
    have hlt : ∀ i, i < n → (if i = k then τ n else τ i) < n := fun i hi => by
      split
      · rename_i e
        have := h1 n (by omega)
        have : τ n ≠ n := fun e2 => by
          have := h2 n k (by omega) hk (by rw [e2, hkn])
          omega
        omega
      · rename_i e
        have := h1 i (by omega)
        have : τ i ≠ n := fun e2 => e (h2 i k (by omega) hk (by rw [e2, hkn]))
        omega
    have ih := sumZ_perm (n := n) (τ := fun i => if i = k then τ n else τ i) v hlt (fun i j hi hj he => by
      revert he
      show (if i = k then τ n else τ i) = (if j = k then τ n else τ j) → _
      split <;> split <;> intro he
      · omega
      · have := h2 n j (by omega) (by omega) he; omega
      · have := h2 i n (by omega) (by omega) he; omega
      · exact h2 i j (by omega) (by omega) he)
    show sumZ n (fun i => v (τ i)) + v (τ n) = sumZ n v + v n
    rw [← ih]
    by_cases e : k = n
    · subst e
      rw [sumZ_congr (n := k) (f := fun i => v (τ i)) (g := fun i => v (if i = k then τ k else τ i)) (fun i hi => by
        show v (τ i) = v (if i = k then τ k else τ i)
        rw [if_neg (by omega)]), hkn]
    · have := sumZ_one (n := n) (k := k) (f := fun i => v (τ i)) (g := fun i => v (if i = k then τ n else τ i)) (by omega) (fun i hi hne => by
        show v (τ i) = v (if i = k then τ n else τ i)
        rw [if_neg hne])
      rw [this]
      show _ - v (if k = k then τ n else τ k) + v (τ k) + v (τ n) = _
      rw [if_pos rfl, hkn]
      omega
/-- A pairing. -/
structure IsP (N : Nat) (R : Nat → Nat) (T : Nat → Nat → Int) (f : Nat → Int) : Prop where
  at' : ∀ i, i < N → f i = -1 ∨ ∃ j : Nat, f i = j ∧ j < R i ∧ 0 ≤ T i j
  inj : ∀ i i', i < N → i' < N → f i = f i' → f i ≠ -1 → i = i'
/-- How many pairs; what they cost. -/
def cnt (N : Nat) (f : Nat → Int) : Int := sumZ N fun i => if f i = -1 then 0 else 1
def tot (N : Nat) (T : Nat → Nat → Int) (f : Nat → Int) : Int := sumZ N fun i => if f i = -1 then 0 else T i (f i).toNat
/-- None is ahead of it. -/
def Ahd (N : Nat) (f g : Nat → Int) : Prop := ∀ i, i < N → (∀ i', i' < i → g i' = f i') → lq (f i) (g i)
/-- The best: most pairs, of these the least cost, of these ahead of all. -/
structure Best (N : Nat) (R : Nat → Nat) (T : Nat → Nat → Int) (f : Nat → Int) : Prop where
  p : IsP N R T f
  most : ∀ g, IsP N R T g → cnt N g ≤ cnt N f
  least : ∀ g, IsP N R T g → cnt N g = cnt N f → tot N T f ≤ tot N T g
  first : ∀ g, IsP N R T g → cnt N g = cnt N f → tot N T g = tot N T f → Ahd N f g
/-- A list of rows' columns goes on to all rows. -/
theorem extend : ∀ (k n : Nat) (g : Nat → Int), (∀ i, i < n → g i = -1 ∨ ∃ j : Nat, j < n ∧ g i = j) → (∀ i i', i < n → i' < n → g i = g i' → g i ≠ -1 → i = i') → (n : Int) - cnt n g ≤ k → ∃ τ : Nat → Nat, (∀ i, i < n → τ i < n) ∧ (∀ i j, i < n → j < n → τ i = τ j → i = j) ∧ ∀ i, i < n → g i ≠ -1 → g i = τ i
  | k, n, g, h1, h2, hk => by
    by_cases hall : ∀ i, i < n → g i ≠ -1
    · refine ⟨fun i => (g i).toNat, fun i hi => ?_, fun i j hi hj he => ?_, fun i hi _ => ?_⟩
      · rcases h1 i hi with e | ⟨j, hj, e⟩
        · exact absurd e (hall i hi)
        · show (g i).toNat < n
          rw [e, Int.toNat_natCast]; exact hj
      · refine h2 i j hi hj ?_ (hall i hi)
        rcases h1 i hi with e | ⟨x, hx, e⟩
        · exact absurd e (hall i hi)
        · rcases h1 j hj with e' | ⟨y, hy, e'⟩
          · exact absurd e' (hall j hj)
          · revert he
            show (g i).toNat = (g j).toNat → _
            rw [e, e']; omega
      · rcases h1 i hi with e | ⟨j, hj, e⟩
        · exact absurd e (hall i hi)
        · show g i = ((g i).toNat : Int)
          rw [e, Int.toNat_natCast]
    · have hex : ∃ i, i < n ∧ g i = -1 := Classical.byContradiction fun hno => hall fun i hi e => hno ⟨i, hi, e⟩
      obtain ⟨i, hi, hgi⟩ := hex
      -- a column that is free
      have hfree : ∃ j, j < n ∧ ∀ r, r < n → g r ≠ (j : Nat) := Classical.byContradiction fun hno => by
        classical
        have hown : ∀ j, j < n → ∃ r, r < n ∧ g r = (j : Nat) := fun j hj => Classical.byContradiction fun hno2 => hno ⟨j, hj, fun r hr e => hno2 ⟨r, hr, e⟩⟩
        refine pigeon_miss (n := n) (j := i) (g := fun j => if h : j < n then Classical.choose (hown j h) else 0) (fun a ha => ?_) (fun a b ha hb he => ?_) (fun a ha => ?_) hi
        · show (if h : a < n then Classical.choose (hown a h) else 0) < n
          rw [dif_pos ha]; exact (Classical.choose_spec (hown a ha)).1
        · revert he
          show (if h : a < n then Classical.choose (hown a h) else 0) = (if h : b < n then Classical.choose (hown b h) else 0) → _
          rw [dif_pos ha, dif_pos hb]
          intro he
          have e1 := (Classical.choose_spec (hown a ha)).2
          have e2 := (Classical.choose_spec (hown b hb)).2
          rw [he] at e1
          omega
        · show (if h : a < n then Classical.choose (hown a h) else 0) ≠ i
          rw [dif_pos ha]
          intro e
          have e1 := (Classical.choose_spec (hown a ha)).2
          rw [e, hgi] at e1
          omega
      obtain ⟨j, hj, hjf⟩ := hfree
      have hcn : cnt n (upd g i j) = cnt n g + 1 := by
        unfold cnt
        rw [sumZ_one (n := n) (k := i) (f := fun x => if upd g i j x = -1 then 0 else 1) (g := fun x => if g x = -1 then 0 else 1) hi (fun x hx hne => by
          show (if upd g i j x = -1 then (0 : Int) else 1) = if g x = -1 then 0 else 1
          rw [upd_ne _ _ hne])]
        show _ - (if g i = -1 then (0 : Int) else 1) + (if upd g i j i = -1 then (0 : Int) else 1) = _
        rw [upd_at, if_pos hgi, if_neg (by omega)]
        omega
      have hle : cnt n (upd g i j) ≤ n := by
        have : ∀ m : Nat, cnt m (upd g i j) ≤ m := fun m => by
          induction m with
          | zero => exact Int.le_refl _
          | succ m ih =>
            show cnt m (upd g i j) + (if upd g i j m = -1 then (0 : Int) else 1) ≤ _
            split <;> omega
        exact this n
      cases k with
      | zero => omega
      | succ k =>
        obtain ⟨τ, t1, t2, t3⟩ := extend k n (upd g i j) (fun x hx => by
          by_cases e : x = i
          · subst e; exact Or.inr ⟨j, hj, upd_at _ _ _⟩
          · rw [upd_ne _ _ e]; exact h1 x hx) (fun x y hx hy he hne => by
          by_cases e1 : x = i
          · by_cases e2 : y = i
            · omega
            · rw [e1, upd_at, upd_ne _ _ e2] at he
              exact absurd he.symm (hjf y hy)
          · by_cases e2 : y = i
            · rw [e2, upd_at, upd_ne _ _ e1] at he
              exact absurd he (hjf x hx)
            · rw [upd_ne _ _ e1] at hne
              rw [upd_ne _ _ e1, upd_ne _ _ e2] at he
              exact h2 x y hx hy he hne) (by omega)
        refine ⟨τ, t1, t2, fun x hx hne => ?_⟩
        have e : x ≠ i := fun e => hne (by rw [e]; exact hgi)
        have := t3 x hx (by rw [upd_ne _ _ e]; exact hne)
        rw [upd_ne _ _ e] at this
        exact this
theorem cnt_le (f : Nat → Int) : ∀ N : Nat, 0 ≤ cnt N f ∧ cnt N f ≤ N
  | 0 => ⟨Int.le_refl _, Int.le_refl _⟩
  | N + 1 => by
    have := cnt_le f N
    show 0 ≤ cnt N f + (if f N = -1 then (0 : Int) else 1) ∧ cnt N f + (if f N = -1 then (0 : Int) else 1) ≤ _
    split <;> omega
theorem tot_le {R : Nat → Nat} {T : Nat → Nat → Int} {f : Nat → Int} : ∀ N : Nat, (∀ i j : Nat, i < N → j < R i → T i j ≤ 1099511627776) → (∀ i, i < N → f i = -1 ∨ ∃ j : Nat, f i = j ∧ j < R i ∧ 0 ≤ T i j) → 0 ≤ tot N T f ∧ tot N T f ≤ N * 1099511627776
  | 0, _, _ => ⟨Int.le_refl _, by show (0 : Int) ≤ _; omega⟩
  | N + 1, h1, h2 => by
    have := tot_le N (fun i j hi => h1 i j (by omega)) (fun i hi => h2 i (by omega))
    show 0 ≤ tot N T f + (if f N = -1 then (0 : Int) else T N (f N).toNat) ∧ tot N T f + (if f N = -1 then (0 : Int) else T N (f N).toNat) ≤ _
    rcases h2 N (by omega) with e | ⟨j, e, hj, hT⟩
    · rw [if_pos e]; omega
    · rw [if_neg (by omega), e, Int.toNat_natCast]
      have := h1 N j (by omega) hj
      omega
/-- What a pairing of the square costs. -/
theorem sq_cost {n N : Nat} {R : Nat → Nat} {T : Nat → Nat → Int} {s : Sq} (hg : Good N R T) (hN : N ≤ n) (hc : ∀ i j, i < n → j < n → s.c i j = if i < N ∧ j < R i ∧ 0 ≤ T i j then T i j else 281474976710657) {τ : Nat → Nat} (h1 : ∀ i, i < n → τ i < n) : sumZ n (fun i => s.c i (τ i)) = tot N T (fun i => toldI s i (τ i)) + ((n : Int) - cnt N (fun i => toldI s i (τ i))) * 281474976710657 := by
  have hstep : ∀ i, i < N → s.c i (τ i) = (if toldI s i (τ i) = -1 then (0 : Int) else T i (toldI s i (τ i)).toNat) + (1 - if toldI s i (τ i) = -1 then (0 : Int) else 1) * 281474976710657 := fun i hi => by
    have e := hc i (τ i) (by omega) (h1 i (by omega))
    by_cases ha : s.c i (τ i) = 281474976710657
    · rw [told_apart ha, if_pos rfl, if_pos rfl]; omega
    · rw [told_pos ha, if_neg (by omega), if_neg (by omega), Int.toNat_natCast]
      rw [e] at ha ⊢
      split at ha
      · rename_i hh
        rw [if_pos hh]; omega
      · omega
  have ha : ∀ m, m ≤ N → sumZ m (fun i => s.c i (τ i)) = tot m T (fun i => toldI s i (τ i)) + ((m : Int) - cnt m (fun i => toldI s i (τ i))) * 281474976710657 := fun m => by
    induction m with
    | zero => intro _; rfl
    | succ m ih =>
      intro hm
      show sumZ m (fun i => s.c i (τ i)) + s.c m (τ m) = tot m T (fun i => toldI s i (τ i)) + (if toldI s m (τ m) = -1 then (0 : Int) else T m (toldI s m (τ m)).toNat) + (((m + 1 : Nat) : Int) - (cnt m (fun i => toldI s i (τ i)) + (if toldI s m (τ m) = -1 then (0 : Int) else 1))) * 281474976710657
      rw [ih (by omega), hstep m (by omega)]
      generalize (if toldI s m (τ m) = -1 then (0 : Int) else T m (toldI s m (τ m)).toNat) = x
      generalize (if toldI s m (τ m) = -1 then (0 : Int) else 1) = y
      omega
  have hb : ∀ m, N ≤ m → m ≤ n → sumZ m (fun i => s.c i (τ i)) = tot N T (fun i => toldI s i (τ i)) + ((m : Int) - cnt N (fun i => toldI s i (τ i))) * 281474976710657 := fun m => by
    induction m with
    | zero => intro h2 _; have : N = 0 := by omega
              subst this; rfl
    | succ m ih =>
      intro h2 h3
      by_cases e : N = m + 1
      · rw [e]; exact ha (m + 1) (by omega)
      · show sumZ m (fun i => s.c i (τ i)) + s.c m (τ m) = _
        rw [ih (by omega) (by omega), hc m (τ m) (by omega) (h1 m (by omega)), if_neg (fun hh => by omega)]
        omega
  exact hb n hN (Nat.le_refl _)
theorem Per.pm {n : Nat} {s : Sq} (h : Per n s) (ht : Ti n s) : PM n s (fun i => (s.m i).toNat) := by
  refine ⟨fun i hi => ?_, fun i j hi hj he => ?_, fun i hi => ?_⟩
  · obtain ⟨j, h1, h2, h3⟩ := h.m i hi
    show (s.m i).toNat < n
    rw [h2, Int.toNat_natCast]; exact h1
  · obtain ⟨x, h1, h2, h3⟩ := h.m i hi
    obtain ⟨y, h4, h5, h6⟩ := h.m j hj
    revert he
    show (s.m i).toNat = (s.m j).toNat → _
    intro he
    exact h.inj hi hj (by omega)
  · obtain ⟨j, h1, h2, h3⟩ := h.m i hi
    show s.c i (s.m i).toNat = _
    rw [h2, Int.toNat_natCast]
    exact ht i j hi h1 h2
theorem Two.best {n N : Nat} {R : Nat → Nat} {T : Nat → Nat → Int} {s : Sq} (h : Two n N s) (hg : Good N R T) (hn : n = side N R) (hc : ∀ i j, i < n → j < n → s.c i j = if i < N ∧ j < R i ∧ 0 ≤ T i j then T i j else 281474976710657) : Best N R T (told s) := by
  have hNn : N ≤ n := by
    rw [hn]; unfold side
    split <;> omega
  have hRn : ∀ i, i < N → R i ≤ n := fun i hi => by
    rw [hn, (hg.r i hi).2]; unfold side
    rw [if_pos (by omega)]; omega
  have hin : ∀ i j, i < n → j < n → s.c i j ≠ 281474976710657 → i < N ∧ j < R i ∧ 0 ≤ T i j := fun i j hi hj hne => by
    rw [hc i j hi hj] at hne
    split at hne
    · assumption
    · exact absurd rfl hne
  have hnin : ∀ i j, i < N → j < R i → 0 ≤ T i j → s.c i j ≠ 281474976710657 := fun i j hi hj hT => by
    have := hRn i hi
    rw [hc i j (by omega) (by omega), if_pos ⟨hi, hj, hT⟩]
    have := hg.t i j hi hj
    omega
  have hσ := h.per.pm h.ti
  -- a pairing of the square tells a pairing
  have hisp : ∀ τ : Nat → Nat, (∀ i, i < n → τ i < n) → (∀ i j, i < n → j < n → τ i = τ j → i = j) → IsP N R T (fun i => toldI s i (τ i)) := fun τ t1 t2 => by
    refine ⟨fun i hi => ?_, fun i i' hi hi' he hne => ?_⟩
    · show toldI s i (τ i) = -1 ∨ ∃ j : Nat, toldI s i (τ i) = j ∧ j < R i ∧ 0 ≤ T i j
      by_cases ha : s.c i (τ i) = 281474976710657
      · exact Or.inl (told_apart ha)
      · have := hin i (τ i) (by omega) (t1 i (by omega)) ha
        exact Or.inr ⟨τ i, told_pos ha, this.2⟩
    · revert he hne
      show toldI s i (τ i) = toldI s i' (τ i') → toldI s i (τ i) ≠ -1 → _
      intro he hne
      by_cases ha : s.c i (τ i) = 281474976710657
      · exact absurd (told_apart ha) hne
      · by_cases ha' : s.c i' (τ i') = 281474976710657
        · rw [told_apart ha'] at he; exact absurd he hne
        · rw [told_pos ha, told_pos ha'] at he
          exact t2 i i' (by omega) (by omega) (by omega)
  have hpf : IsP N R T (told s) := hisp _ hσ.lt hσ.inj
  -- duals
  have hdual : ∀ τ : Nat → Nat, (∀ i, i < n → τ i < n) → (∀ i j, i < n → j < n → τ i = τ j → i = j) → sumZ n (fun i => s.u i + s.v (τ i)) = sumZ n s.u + sumZ n s.v := fun τ t1 t2 => by
    rw [sumZ_add n s.u (fun i => s.v (τ i)), sumZ_perm s.v t1 t2]
  have hσc : sumZ n (fun i => s.c i (s.m i).toNat) = sumZ n s.u + sumZ n s.v := by
    rw [← hdual _ hσ.lt hσ.inj]
    exact sumZ_congr fun i hi => hσ.ti i hi
  have hσt := sq_cost hg hNn hc hσ.lt
  -- any pairing
  have hall : ∀ g, IsP N R T g → ∃ τ : Nat → Nat, (∀ i, i < n → τ i < n) ∧ (∀ i j, i < n → j < n → τ i = τ j → i = j) ∧ ∀ i, i < N → g i ≠ -1 → toldI s i (τ i) = g i := fun g hp => by
    obtain ⟨τ, t1, t2, t3⟩ := extend n n (fun i => if i < N then g i else -1) (fun i hi => by
      show (if i < N then g i else -1) = -1 ∨ ∃ j : Nat, j < n ∧ (if i < N then g i else -1) = j
      split
      · rename_i hiN
        rcases hp.at' i hiN with e | ⟨j, e, hj, _⟩
        · exact Or.inl e
        · exact Or.inr ⟨j, by have := hRn i hiN; omega, e⟩
      · exact Or.inl rfl) (fun i i' hi hi' he hne => by
      revert he hne
      show (if i < N then g i else -1) = (if i' < N then g i' else -1) → (if i < N then g i else -1) ≠ -1 → _
      split <;> split <;> intro he hne
      · rename_i a1 a2; exact hp.inj i i' a1 a2 he hne
      · exact absurd he hne
      · exact absurd rfl hne
      · exact absurd rfl hne) (by have := cnt_le (fun i => if i < N then g i else -1) n; omega)
    refine ⟨τ, t1, t2, fun i hi hne => ?_⟩
    have e := t3 i (by omega) (by show (if i < N then g i else -1) ≠ -1; rw [if_pos hi]; exact hne)
    have e' : g i = τ i := by
      have : (if i < N then g i else -1) = (τ i : Int) := e
      rw [if_pos hi] at this; exact this
    rcases hp.at' i hi with e2 | ⟨j, e2, hj, hT⟩
    · exact absurd e2 hne
    · have : j = τ i := by omega
      subst this
      rw [told_pos (hnin i _ hi hj hT), e']
  have key : ∀ g, IsP N R T g → ∃ τ : Nat → Nat, (∀ i, i < n → τ i < n) ∧ (∀ i j, i < n → j < n → τ i = τ j → i = j) ∧ (∀ i, i < N → g i ≠ -1 → toldI s i (τ i) = g i) ∧ cnt N g ≤ cnt N (fun i => toldI s i (τ i)) ∧ cnt N (fun i => toldI s i (τ i)) ≤ cnt N (told s) ∧ (cnt N (fun i => toldI s i (τ i)) = cnt N (told s) → tot N T (told s) ≤ tot N T (fun i => toldI s i (τ i)) ∧ (tot N T (fun i => toldI s i (τ i)) = tot N T (told s) → PM n s τ)) := fun g hp => by
    obtain ⟨τ, t1, t2, t3⟩ := hall g hp
    have hle : ∀ i, i < n → s.u i + s.v (τ i) ≤ s.c i (τ i) := fun i hi => h.fe i (τ i) hi (t1 i hi)
    have hsum := sumZ_le hle
    rw [hdual τ t1 t2, ← hσc, hσt, sq_cost hg hNn hc t1] at hsum
    have hb1 := tot_le N hg.t hpf.at'
    have hb2 := tot_le N hg.t (hisp τ t1 t2).at'
    have hNN : (N : Int) ≤ 256 := by have := hg.n; omega
    have htd : (fun i => toldI s i (s.m i).toNat) = told s := rfl
    rw [htd] at hsum
    generalize hA : cnt N (told s) = A at *
    generalize hB : cnt N (fun i => toldI s i (τ i)) = B at *
    generalize hX : tot N T (told s) = X at *
    generalize hY : tot N T (fun i => toldI s i (τ i)) = Y at *
    have hBA : B ≤ A := by omega
    refine ⟨τ, t1, t2, t3, ?_, by rw [hB]; exact hBA, fun hAB => ?_⟩
    rotate_left
    · rw [hB] at hAB
      rw [hY]
      refine ⟨by omega, fun hYX => ⟨t1, t2, fun i hi => ?_⟩⟩
      refine (sumZ_eq hle ?_ i hi).symm
      rw [hdual τ t1 t2, ← hσc, hσt, sq_cost hg hNn hc t1, hB, hY, htd, hA, hX]
      omega
    · refine sumZ_le fun i hi => ?_
      show (if g i = -1 then (0 : Int) else 1) ≤ if toldI s i (τ i) = -1 then 0 else 1
      by_cases e : g i = -1
      · rw [if_pos e]; split <;> omega
      · rw [if_neg e, t3 i hi e, if_neg e]; exact Int.le_refl _
  have same : ∀ g, IsP N R T g → ∀ τ : Nat → Nat, (∀ i, i < N → g i ≠ -1 → toldI s i (τ i) = g i) → cnt N (fun i => toldI s i (τ i)) ≤ cnt N g → ∀ i, i < N → toldI s i (τ i) = g i := fun g hp τ t3 hcn i hi => by
    have := sumZ_eq (n := N) (f := fun i => if g i = -1 then (0 : Int) else 1) (g := fun i => if toldI s i (τ i) = -1 then (0 : Int) else 1) (fun i hi => by
      show (if g i = -1 then (0 : Int) else 1) ≤ if toldI s i (τ i) = -1 then 0 else 1
      by_cases e : g i = -1
      · rw [if_pos e]; split <;> omega
      · rw [if_neg e, t3 i hi e, if_neg e]; exact Int.le_refl _) hcn i hi
    by_cases e : g i = -1
    · have h2 : (if g i = -1 then (0 : Int) else 1) = if toldI s i (τ i) = -1 then 0 else 1 := this
      rw [if_pos e] at h2
      rw [e]
      apply Classical.byContradiction
      intro hne
      rw [if_neg hne] at h2
      omega
    · exact t3 i hi e
  refine ⟨hpf, fun g hp => ?_, fun g hp he => ?_, fun g hp he ht => ?_⟩
  · obtain ⟨τ, t1, t2, t3, k1, k2, k3⟩ := key g hp
    omega
  · obtain ⟨τ, t1, t2, t3, k1, k2, k3⟩ := key g hp
    have hs := same g hp τ t3 (by omega)
    have hY : tot N T (fun i => toldI s i (τ i)) = tot N T g := sumZ_congr fun i hi => by
      show (if toldI s i (τ i) = -1 then (0 : Int) else T i (toldI s i (τ i)).toNat) = _
      rw [hs i hi]
    rw [← hY]
    exact (k3 (by omega)).1
  · obtain ⟨τ, t1, t2, t3, k1, k2, k3⟩ := key g hp
    have hs := same g hp τ t3 (by omega)
    have hY : tot N T (fun i => toldI s i (τ i)) = tot N T g := sumZ_congr fun i hi => by
      show (if toldI s i (τ i) = -1 then (0 : Int) else T i (toldI s i (τ i)).toNat) = _
      rw [hs i hi]
    have hpm := (k3 (by omega)).2 (by omega)
    intro i hi hlt
    rw [← hs i hi]
    exact h.lex τ hpm i hi (fun i' hi' => by rw [hs i' (by omega)]; exact hlt i' hi')
end Go.Proofs.Ytdajgnchgealhaa

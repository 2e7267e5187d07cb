/- A region that draws its order, in an order of one's own: what reads first, calls where nothing else may come up, what writes behind all that reads. No program. -/
import Derived.Test.YtijfmaepoamkgabRg
namespace Go.Proofs.Ytijfmaepoamkgab
open Go

/-- What has come up has all that it waits for behind it. -/
def Cl (ops : Array Oper) (listed : Array Bool) : Prop := ∀ j oj, ops[j]? = some oj → listed.getD j false = true → ∀ e ∈ oj.after, Region.binds .any e = true → listed.getD e.on false = true
theorem Cl.set {ops : Array Oper} {listed : Array Bool} {i : Nat} (h : Cl ops listed) (hi : i ∈ Region.ready .any ops listed) : Cl ops (listed.setIfInBounds i true) := by
  obtain ⟨_, oi, hoi, hall⟩ := mem_ready.1 hi
  intro j oj hj hl e he hb
  by_cases hij : i = j
  · subst hij
    obtain rfl : oj = oi := Option.some.inj (hj.symm.trans hoi)
    exact getD_set_true (hall e he hb)
  · rw [getD_set_ne false hij] at hl
    exact getD_set_true (h j oj hj hl e he hb)
/-- j waits for i, by way of others. -/
def reachB (ops : Array Oper) : Nat → Nat → Nat → Bool
  | 0, j, i => Region.waitsFor .any ops j i
  | f + 1, j, i => Region.waitsFor .any ops j i || (List.range ops.size).any fun k => Region.waitsFor .any ops j k && reachB ops f k i
theorem reach_listed {ops : Array Oper} {listed : Array Bool} (h : Cl ops listed) : ∀ (f j i : Nat), reachB ops f j i = true → listed.getD j false = true → listed.getD i false = true := by
  have one : ∀ j i, Region.waitsFor .any ops j i = true → listed.getD j false = true → listed.getD i false = true := fun j i hw hl => by
    obtain ⟨oj, hoj, e, he, hb, hon⟩ := Region.waitsFor_spec hw
    rw [← hon]
    exact h j oj hoj hl e he hb
  intro f
  induction f with
  | zero => exact one
  | succ f ih =>
    intro j i hr hl
    simp only [reachB, Bool.or_eq_true, List.any_eq_true, List.mem_range, Bool.and_eq_true] at hr
    rcases hr with hr | ⟨k, _, hk1, hk2⟩
    · exact one j i hr hl
    · exact ih k i hk2 (one j k hk1 hl)
theorem reach_ready {ops : Array Oper} {listed : Array Bool} (h : Cl ops listed) {f n i : Nat} (hr : reachB ops f n i = true) (hn : n ∈ Region.ready .any ops listed) : listed.getD i false = true := by
  obtain ⟨_, on, hon, hall⟩ := mem_ready.1 hn
  have one : ∀ i, Region.waitsFor .any ops n i = true → listed.getD i false = true := fun i hw => by
    obtain ⟨o2, ho2, e, he, hb, hoe⟩ := Region.waitsFor_spec hw
    obtain rfl : o2 = on := Option.some.inj (ho2.symm.trans hon)
    rw [← hoe]; exact hall e he hb
  cases f with
  | zero => exact one i hr
  | succ f =>
    simp only [reachB, Bool.or_eq_true, List.any_eq_true, List.mem_range, Bool.and_eq_true] at hr
    rcases hr with hr | ⟨k, _, hk1, hk2⟩
    · exact one i hr
    · exact reach_listed h f k i hk2 (one k hk1)
/-- What reads may be taken first: S0 holds as long as number n has not come up; or it looks at no world. -/
theorem anyC_first {P : Program} {ops : Array Oper} {Q : Exit → Act → World → Prop} {n : Nat} {S0 S1 : World → Prop} {i fu : Nat} {oi : Oper} {v : Value} (hin : i ≠ n) (hk : (reachB ops fu n i = true ∧ S1 = S0) ∨ (∀ w, S1 w)) (hi : ops[i]? = some oi) (hsel : ∀ (j : Nat) (o : Oper) cs b, ops[j]? = some o → o.op ≠ .select cs b)
    (hQ : ∀ c a w, Q (.panic c) (a.put oi.dst v) w → Q (.panic c) a w) : ∀ (f : Nat) (listed : Array Bool) (a : Act) (w : World), n < listed.size → Cl ops listed →
    (∀ j oj, ops[j]? = some oj → j ≠ i → listed.getD j true = false → (∀ e ∈ oj.after, Region.binds .any e = true → e.on ≠ i) → oi.apart ops oj = true) →
    i ∈ Region.ready .any ops listed → YieldsIf P ops S1 oi v a → Early n S0 listed w → S1 w →
    anyE P ops Q n S0 f (listed.setIfInBounds i true) (a.put oi.dst v) w → anyE P ops Q n S0 (f + 1) listed a w := by
  have hset : ∀ (listed : Array Bool) (w : World), Early n S0 listed w → Early n S0 (listed.setIfInBounds i true) w := fun listed w h hn => h (by rw [getD_set_ne true hin] at hn; exact hn)
  intro f
  induction f with
  | zero =>
    intro listed a w _ _ _ hr hy hE hS H
    refine ⟨fun h => (by rw [h] at hr; cases hr), fun j hj => ?_⟩
    by_cases hji : j = i
    · subst hji
      exact hy.wpOp hi hS ⟨hset _ _ hE, H⟩
    · have k := ready_mono hj hji
      rw [H.1] at k
      cases k
  | succ f ih =>
    intro listed a w hlt hC hfree hr hy hE hS H
    have hun := (mem_ready.1 hr).1
    refine ⟨fun h => (by rw [h] at hr; cases hr), fun j hj => ?_⟩
    by_cases hji : j = i
    · subst hji
      exact hy.wpOp hi hS ⟨hset _ _ hE, H⟩
    · obtain ⟨hjun, oj, hoj, hall⟩ := mem_ready.1 hj
      have hnot : ∀ e ∈ oj.after, Region.binds .any e = true → e.on ≠ i := fun e he hb heq => by
        have k := hall e he hb
        rw [heq, getD_both hun] at k
        cases k
      have hp := wpOp_putIf hoj (hfree j oj hoj hji hjun hnot) (fun cs b => hsel i oi cs b hi) (fun cs b => hsel j oj cs b hoj) hQ hy (H.2 j (ready_mono hj hji))
      refine wpOp_mono (fun a' w' k => ?_) hp
      obtain ⟨k1, k2, k3⟩ := k
      have hE' : Early n S0 (listed.setIfInBounds j true) w' := fun hn => k2 (by
        by_cases hjn : j = n
        · subst hjn
          rcases Nat.lt_or_ge j listed.size with q | q
          · simp [q] at hn
          · simp [q] at hn
        · rw [getD_set_ne true hjn] at hn ⊢
          rw [getD_set_ne true hin]; exact hn)
      have hS' : S1 w' := by
        rcases hk with ⟨hre, rfl⟩ | hk
        · have hjn : j ≠ n := by
            rintro rfl
            have := reach_ready hC hre hj
            rw [getD_both hun] at this
            cases this
          have hnun : listed.getD n true = false := by
            cases hq : listed.getD n true with
            | false => rfl
            | true =>
              exfalso
              have hq2 : listed.getD n false = true := by simp [hlt] at hq ⊢; exact hq
              have := reach_listed hC _ _ _ hre hq2
              rw [getD_both hun] at this
              cases this
          exact hE' (by rw [getD_set_ne true hjn]; exact hnun)
        · exact hk w'
      rw [Array.setIfInBounds_comm _ _ (Ne.symm hji)] at k3
      refine ⟨hE', ih _ _ _ (by simpa using hlt) (hC.set hj) (fun k ok hk hki hu hno => ?_) (ready_mono hr (Ne.symm hji)) k1 hE' hS' k3⟩
      refine hfree k ok hk hki ?_ hno
      by_cases hjk : j = k
      · subst hjk; exact hjun
      · rw [getD_set_ne true hjk] at hu; exact hu
/-- How an operation comes up: some false: it reads; some true: it is called, where nothing else may come up; none: it looks at no world. -/
def ordB (ops : Array Oper) (g n : Nat) : List (Nat × Option Bool) → Array Bool → Bool
  | [], listed => Region.seqB .any ops g n listed
  | (i, c) :: l, listed => decide (i ≠ n) && (match c with
      | some true => decide (Region.ready .any ops listed = [i])
      | some false => (Region.ready .any ops listed).contains i && Region.free .any ops listed i && reachB ops 6 n i
      | none => (Region.ready .any ops listed).contains i && Region.free .any ops listed i) && ordB ops g n l (listed.setIfInBounds i true)
def OrdW (P : Program) (ops : Array Oper) (Q : Exit → Act → World → Prop) (S0 : World → Prop) (K : Act → World → Prop) : List (Nat × Option Bool) → Act → World → Prop
  | [], a, w => K a w
  | (i, some false) :: l, a, w => ∃ o v d, ops[i]? = some o ∧ o.dst = d ∧ YieldsIf P ops S0 o v a ∧ OrdW P ops Q S0 K l (a.put d v) w
  | (i, none) :: l, a, w => ∃ o v d, ops[i]? = some o ∧ o.dst = d ∧ YieldsIf P ops (fun _ => True) o v a ∧ OrdW P ops Q S0 K l (a.put d v) w
  | (i, some true) :: l, a, w => wpOp P ops Q i (fun a' w' => S0 w' ∧ OrdW P ops Q S0 K l a' w') a w
theorem anyC_ord {P : Program} {ops : Array Oper} {Q : Exit → Act → World → Prop} {n g : Nat} {S0 : World → Prop} {K : Act → World → Prop} (hsel : Region.noSelect ops = true) (hQ : ∀ c a d v w, Q (.panic c) (a.put d v) w → Q (.panic c) a w)
    (hK : ∀ listed a w, Region.seqB .any ops g n listed = true → K a w → anyE P ops Q n S0 g listed a w) : ∀ (l : List (Nat × Option Bool)) (listed : Array Bool) (a : Act) (w : World), S0 w → n < listed.size → Cl ops listed → ordB ops g n l listed = true → OrdW P ops Q S0 K l a w → anyE P ops Q n S0 (l.length + g) listed a w
  | [], listed, a, w, _, _, _, hB, h => by
    rw [List.length_nil, Nat.zero_add]
    exact hK listed a w hB h
  | (i, some false) :: l, listed, a, w, hS, hz, hI, hB, h => by
    simp only [ordB, Bool.and_eq_true, decide_eq_true_eq] at hB
    obtain ⟨⟨hin, ⟨hr, hf⟩, hre⟩, hB'⟩ := hB
    obtain ⟨o, v, d, h0, rfl, hy, hrest⟩ := h
    have hr' : i ∈ Region.ready .any ops listed := by simpa using hr
    rw [show ((i, some false) :: l).length + g = (l.length + g) + 1 by simp; omega]
    refine anyC_first hin (Or.inl ⟨hre, rfl⟩) h0 (Region.noSelect_spec hsel) (fun c a w => hQ c a _ _ w) _ listed a w hz hI (Region.free_spec h0 hf) hr' hy (fun _ => hS) hS ?_
    exact anyC_ord hsel hQ hK l _ _ _ hS (by simpa using hz) (hI.set hr') hB' hrest
  | (i, none) :: l, listed, a, w, hS, hz, hI, hB, h => by
    simp only [ordB, Bool.and_eq_true, decide_eq_true_eq] at hB
    obtain ⟨⟨hin, hr, hf⟩, hB'⟩ := hB
    obtain ⟨o, v, d, h0, rfl, hy, hrest⟩ := h
    have hr' : i ∈ Region.ready .any ops listed := by simpa using hr
    rw [show ((i, none) :: l).length + g = (l.length + g) + 1 by simp; omega]
    refine anyC_first (fu := 0) hin (Or.inr fun _ => trivial) h0 (Region.noSelect_spec hsel) (fun c a w => hQ c a _ _ w) _ listed a w hz hI (Region.free_spec h0 hf) hr' hy (fun _ => hS) trivial ?_
    exact anyC_ord hsel hQ hK l _ _ _ hS (by simpa using hz) (hI.set hr') hB' hrest
  | (i, some true) :: l, listed, a, w, hS, hz, hI, hB, h => by
    simp only [ordB, Bool.and_eq_true, decide_eq_true_eq] at hB
    obtain ⟨⟨hin, hr⟩, hB'⟩ := hB
    have hr' : i ∈ Region.ready .any ops listed := by rw [hr]; simp
    rw [show ((i, some true) :: l).length + g = (l.length + g) + 1 by simp; omega]
    refine ⟨fun h0 => (by rw [hr] at h0; cases h0), fun j hj => ?_⟩
    rw [hr] at hj
    obtain rfl : j = i := by simpa using hj
    exact wpOp_mono (fun a' w' k => ⟨fun _ => k.1, anyC_ord hsel hQ hK l _ _ _ k.1 (by simpa using hz) (hI.set hr') hB' k.2⟩) h
def regB (ops : Array Oper) (n g : Nat) (l : List (Nat × Option Bool)) : Bool := Region.noSelect ops && ordB ops g n l (Array.replicate ops.size false)
theorem wp_region_ord {P : Program} {id : Nat} {Q : Exit → Act → World → Prop} {a : Act} {w : World} {l : List Oper} (n : Nat) (ord : List (Nat × Option Bool)) (S0 : World → Prop) (hm : P.follows .mixedOrders = true) (hlen : n < l.length) (hord : ord.length = n) (hB : regB l.toArray n (l.length - n) ord = true) (hQ : ∀ c a d v w, Q (.panic c) (a.put d v) w → Q (.panic c) a w)
    (hS : S0 w.drew) (h : OrdW P l.toArray Q S0 (fun a' w' => wpList P l.toArray Q (l.drop n) a' w') ord a w.drew) : (Code.region id l.toArray true).wp P Q a w := by
  simp only [regB, Bool.and_eq_true] at hB
  obtain ⟨hs, hlex⟩ := hB
  refine wp_region_any hm ?_
  have H := anyC_ord (P := P) (ops := l.toArray) (Q := Q) (n := n) (g := l.length - n) (S0 := S0) (K := fun a' w' => wpList P l.toArray Q (l.drop n) a' w') hs hQ (fun listed a2 w2 hq hk => by
    obtain ⟨g, hg⟩ : ∃ g, l.length - n = g + 1 := ⟨l.length - n - 1, by omega⟩
    have hgl : (l.drop n).length = g + 1 := by simp; omega
    rw [hg] at hq ⊢
    have hall := wpAny_of_seq (md := .any) (Q' := Q) (l.drop n) n listed a2 w2 (fun j => by simp [List.getElem?_drop]) (by rw [hgl]; exact hq) hk
    rw [hgl] at hall
    simp only [Region.seqB, Bool.and_eq_true, decide_eq_true_eq] at hq
    refine ⟨hall.1, fun j hj => ?_⟩
    have hj2 := hj
    rw [hq.1] at hj2
    obtain rfl : j = n := by simpa using hj2
    have hlate : (listed.setIfInBounds j true).getD j true = true := by
      rcases Nat.lt_or_ge j listed.size with q | q
      · simp [q]
      · simp [q]
    exact wpOp_mono (fun a3 w3 q => ⟨fun hn => absurd hlate (by rw [hn]; decide), any_anyE _ _ _ _ hlate q⟩) (hall.2 _ hj)) ord (Array.replicate l.toArray.size false) a w.drew hS (by simpa using hlen) (fun j oj _ hl => (by rw [getD_replicate_false] at hl; cases hl)) hlex h
  have := anyE_any _ _ _ _ H
  rw [hord, show n + (l.length - n) = l.toArray.size by simp; omega] at this
  exact this
end Go.Proofs.Ytijfmaepoamkgab

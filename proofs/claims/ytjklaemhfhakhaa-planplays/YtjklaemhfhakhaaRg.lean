/- A region that draws its order: what reads is taken first; one call; what writes comes behind all of it. No program. -/
import Derived.OrdersHeld
import Derived.StillTail
import Derived.Test.YtjklaemhfhakhaaBa
namespace Go.Proofs.Ytjklaemhfhakhaa
open Go

theorem put_def (a : Act) (d : Option Tmp) (v : Value) : (a.put d v).defers = a.defers := by cases d <;> rfl
/-- As long as number n has not come up, S0 holds. -/
def Early (n : Nat) (S0 : World → Prop) (listed : Array Bool) (w : World) : Prop := listed.getD n true = false → S0 w
/-- Whatever order is picked; 'Early' holds behind each operation. -/
def anyE (P : Program) (ops : Array Oper) (Q : Exit → Act → World → Prop) (n : Nat) (S0 : World → Prop) : Nat → Array Bool → Act → World → Prop
  | 0, listed, a, w => Region.ready .any ops listed = [] ∧ Q .normal a w
  | f + 1, listed, a, w =>
    (Region.ready .any ops listed = [] → Q .normal a w) ∧
    ∀ i ∈ Region.ready .any ops listed, wpOp P ops Q i (fun a' w' => Early n S0 (listed.setIfInBounds i true) w' ∧ anyE P ops Q n S0 f (listed.setIfInBounds i true) a' w') a w
theorem anyE_any {P : Program} {ops : Array Oper} {Q : Exit → Act → World → Prop} {n : Nat} {S0 : World → Prop} : ∀ (f : Nat) (listed : Array Bool) (a : Act) (w : World), anyE P ops Q n S0 f listed a w → wpAny P .any ops Q f listed a w
  | 0, _, _, _, h => h
  | f + 1, _, _, _, h => ⟨h.1, fun i hi => wpOp_mono (fun a' w' k => anyE_any f _ a' w' k.2) (h.2 i hi)⟩
theorem late_set {n : Nat} {listed : Array Bool} (h : listed.getD n true = true) (i : Nat) : (listed.setIfInBounds i true).getD n true = true := by
  by_cases hi : i = n
  · subst hi
    rcases Nat.lt_or_ge i listed.size with k | k
    · simp [k]
    · simp [k]
  · rw [getD_set_ne true hi]; exact h
theorem any_anyE {P : Program} {ops : Array Oper} {Q : Exit → Act → World → Prop} {n : Nat} {S0 : World → Prop} : ∀ (f : Nat) (listed : Array Bool) (a : Act) (w : World), listed.getD n true = true → wpAny P .any ops Q f listed a w → anyE P ops Q n S0 f listed a w
  | 0, _, _, _, _, h => h
  | f + 1, listed, _, _, hl, h => ⟨h.1, fun i hi => wpOp_mono (fun a' w' k => ⟨fun hn => absurd (late_set hl i) (by rw [hn]; decide), any_anyE f _ a' w' (late_set hl i) k⟩) (h.2 i hi)⟩
/-- An operation that only reads, and for which number n waits, may be taken first. -/
theorem anyE_first {P : Program} {ops : Array Oper} {Q : Exit → Act → World → Prop} {n : Nat} {S0 : World → Prop} {i : Nat} {oi : Oper} {v : Value} (hs : Region.sinkB .any ops n = true) (hc : Region.chainB .any ops n = true) (hn : n < ops.size) (hin : i < n) (hi : ops[i]? = some oi) (hsel : ∀ (j : Nat) (o : Oper) cs b, ops[j]? = some o → o.op ≠ .select cs b)
    (hQ : ∀ c a w, Q (.panic c) (a.put oi.dst v) w → Q (.panic c) a w) : ∀ (f : Nat) (listed : Array Bool) (a : Act) (w : World),
    (∀ j oj, ops[j]? = some oj → j ≠ i → listed.getD j true = false → (∀ e ∈ oj.after, Region.binds .any e = true → e.on ≠ i) → oi.apart ops oj = true) →
    i ∈ Region.ready .any ops listed → YieldsIf P ops S0 oi v a → HeadInv .any ops n listed → S0 w →
    anyE P ops Q n S0 f (listed.setIfInBounds i true) (a.put oi.dst v) w → anyE P ops Q n S0 (f + 1) listed a w := by
  intro f
  induction f with
  | zero =>
    intro listed a w _ hr hy hE hS H
    refine ⟨fun h => (by rw [h] at hr; cases hr), fun j hj => ?_⟩
    by_cases hji : j = i
    · subst hji
      exact hy.wpOp hi hS ⟨fun _ => hS, H⟩
    · have k := ready_mono hj hji
      rw [H.1] at k
      cases k
  | succ f ih =>
    intro listed a w hfree hr hy hE hS H
    have hun := (mem_ready.1 hr).1
    refine ⟨fun h => (by rw [h] at hr; cases hr), fun j hj => ?_⟩
    by_cases hji : j = i
    · subst hji
      exact hy.wpOp hi hS ⟨fun _ => hS, H⟩
    · obtain ⟨hjun, oj, hoj, hall⟩ := mem_ready.1 hj
      have hnot : ∀ e ∈ oj.after, Region.binds .any e = true → e.on ≠ i := fun e he hb heq => by
        have k := hall e he hb
        rw [heq, getD_both hun] at k
        cases k
      have hjn : j < n := by
        rcases Nat.lt_or_ge j n with h | h
        · exact h
        · exact absurd hj (tail_waits hs hc hn hE _ i rfl hin hun j h)
      have hp := wpOp_putIf hoj (hfree j oj hoj hji hjun hnot) (fun cs b => hsel i oi cs b hi) (fun cs b => hsel j oj cs b hoj) hQ hy (H.2 j (ready_mono hj hji))
      refine wpOp_mono (fun a' w' k => ?_) hp
      obtain ⟨k1, k2, k3⟩ := k
      have hE' := hE.set hj hjn
      have hS' : S0 w' := k2 (by rw [getD_set_ne true (by omega), getD_set_ne true (by omega)]; exact hE.tail n (Nat.le_refl _) hn)
      rw [Array.setIfInBounds_comm _ _ (Ne.symm hji)] at k3
      refine ⟨fun _ => hS', ih _ _ _ (fun k ok hk hki hu hno => ?_) (ready_mono hr (Ne.symm hji)) k1 hE' hS' k3⟩
      refine hfree k ok hk hki ?_ hno
      by_cases hjk : j = k
      · subst hjk; exact hjun
      · rw [getD_set_ne true hjk] at hu; exact hu
/-- The values of what is taken first, one by one. -/
def Heads (P : Program) (ops : Array Oper) (S0 : World → Prop) (K : Act → Prop) : List Oper → Act → Prop
  | [], a => K a
  | o :: l, a => ∃ v, YieldsIf P ops S0 o v a ∧ Heads P ops S0 K l (a.put o.dst v)
theorem wpOp_call {P : Program} {ops : Array Oper} {Q : Exit → Act → World → Prop} {K : Act → World → Prop} {a : Act} {w : World} {m f : Nat} {o : Oper} {args : Array Operand} {tys : Array TypeId} (ho : ops[m]? = some o) (hg : o.guard = none) (hop : o.op = .call { callee := .value (.func f), args := args, argTypes := tys }) (vs : Array Value) (hvs : args.map a.eval = vs) (hen : (callFunc f vs).run P w = .ok (.enter f vs) w)
    (h : Calls P f vs w (fun e w' => ∃ v, e = .returned v ∧ K (a.put o.dst v) w')) : wpOp P ops Q m K a w := by
  unfold wpOp
  have hw : Region.wanted o (yielded ops a.tmps) = true := by simp [Region.wanted, hg]
  simp only [ho, hw, if_true]
  left
  unfold Oper.wp
  simp [execOp, hop, resolve, invoke, Act.eval, Oper.upon, Deferred.ofValue, hvs, hen]
  refine h.mono ?_
  rintro e w' ⟨v, rfl, hk⟩
  exact hk
def headsB (ops : Array Oper) (m g : Nat) : Bool := Region.sinkB .any ops (m + 1) && Region.chainB .any ops (m + 1) && Region.noSelect ops && Region.lexHead .any ops g m 0 (Array.replicate ops.size false)
theorem anyE_lex {P : Program} {ops : Array Oper} {Q : Exit → Act → World → Prop} {n g : Nat} {S0 : World → Prop} {w : World} {K : Act → Prop} (hsel : Region.noSelect ops = true) (hs : Region.sinkB .any ops n = true) (hc : Region.chainB .any ops n = true) (hnn : n < ops.size) (hQ : ∀ c a d v w, Q (.panic c) (a.put d v) w → Q (.panic c) a w) (hS : S0 w)
    (hK : ∀ listed a, Region.seqB .any ops g (n - 1) listed = true → listed.getD n true = false → K a → anyE P ops Q n S0 g listed a w) : ∀ (l : List Oper) (k : Nat) (listed : Array Bool) (a : Act),
    (∀ j, j < l.length → l[j]? = ops[k + j]?) → k + l.length = n - 1 → 1 ≤ n → HeadInv .any ops n listed → Region.lexHead .any ops g l.length k listed = true → Heads P ops S0 K l a → anyE P ops Q n S0 (l.length + g) listed a w
  | [], k, listed, a, _, hk, _, hn, hB, h => by
    obtain rfl : k = n - 1 := by simpa using hk
    rw [List.length_nil, Nat.zero_add]
    exact hK listed a (by simpa [Region.lexHead] using hB) (hn.tail n (Nat.le_refl _) hnn) h
  | o :: l, k, listed, a, hl, hk, h1, hn, hB, h => by
    simp only [List.length_cons] at hk
    have h0 : ops[k]? = some o := by simpa using (hl 0 (by simp)).symm
    simp only [List.length_cons, Region.lexHead, Bool.and_eq_true] at hB
    obtain ⟨⟨hr, hf⟩, hB'⟩ := hB
    obtain ⟨v, hy, hrest⟩ := h
    rw [show (o :: l).length + g = (l.length + g) + 1 by simp; omega]
    have hr' : k ∈ Region.ready .any ops listed := by simpa using hr
    refine anyE_first hs hc hnn (by omega) h0 (Region.noSelect_spec hsel) (fun c a w => hQ c a _ _ w) _ listed a w (Region.free_spec h0 hf) hr' hy hn hS ?_
    exact anyE_lex hsel hs hc hnn hQ hS hK l (k + 1) _ _ (fun j hj => by have := hl (j + 1) (by simp; omega); simpa [Nat.add_assoc, Nat.add_comm 1 j] using this) (by omega) h1 (hn.set hr' (by omega)) hB' hrest
theorem wp_region_heads {P : Program} {id : Nat} {Q : Exit → Act → World → Prop} {a : Act} {w : World} {l : List Oper} (m : Nat) (S0 : World → Prop) (hm : P.follows .mixedOrders = true) (hlen : m + 1 < l.length) (hB : headsB l.toArray m (l.length - m) = true) (hQ : ∀ c a d v w, Q (.panic c) (a.put d v) w → Q (.panic c) a w)
    (hS : S0 w.drew) (h : Heads P l.toArray S0 (fun a' => wpOp P l.toArray Q m (fun a2 w2 => S0 w2 ∧ wpList P l.toArray Q (l.drop (m + 1)) a2 w2) a' w.drew) (l.take m) a) : (Code.region id l.toArray true).wp P Q a w := by
  simp only [headsB, Bool.and_eq_true] at hB
  obtain ⟨⟨⟨hsk, hch⟩, hs⟩, hlex⟩ := hB
  refine wp_region_any hm ?_
  have htl : (l.take m).length = m := by simp; omega
  have H := anyE_lex (P := P) (ops := l.toArray) (Q := Q) (n := m + 1) (g := l.length - m) (S0 := S0) (w := w.drew) (K := fun a' => wpOp P l.toArray Q m (fun a2 w2 => S0 w2 ∧ wpList P l.toArray Q (l.drop (m + 1)) a2 w2) a' w.drew) hs hsk hch (by simpa using hlen) hQ hS (fun listed a' hq hn hk => by
    obtain ⟨g, hg⟩ : ∃ g, l.length - m = g + 1 := ⟨l.length - m - 1, by omega⟩
    rw [hg] at hq ⊢
    simp only [Nat.add_sub_cancel, Region.seqB, Bool.and_eq_true, decide_eq_true_eq] at hq
    refine ⟨fun h0 => (by rw [hq.1] at h0; cases h0), fun i hi => ?_⟩
    rw [hq.1] at hi
    obtain rfl : i = m := by simpa using hi
    refine wpOp_mono (fun a2 w2 k => ⟨fun _ => k.1, ?_⟩) hk
    have hsq := hq.2
    have hgl : (l.drop (i + 1)).length = g := by simp; omega
    obtain ⟨g', rfl⟩ : ∃ g', g = g' + 1 := ⟨g - 1, by omega⟩
    have hall := wpAny_of_seq (md := .any) (Q' := Q) (l.drop (i + 1)) (i + 1) (listed.setIfInBounds i true) a2 w2 (fun j => by simp [List.getElem?_drop]) (by rw [hgl]; exact hsq) k.2
    rw [hgl] at hall
    simp only [Region.seqB, Bool.and_eq_true, decide_eq_true_eq] at hsq
    refine ⟨hall.1, fun j hj => ?_⟩
    have hj2 := hj
    rw [hsq.1] at hj2
    obtain rfl : j = i + 1 := by simpa using hj2
    have hlate : ((listed.setIfInBounds i true).setIfInBounds (i + 1) true).getD (i + 1) true = true := by
      rcases Nat.lt_or_ge (i + 1) (listed.setIfInBounds i true).size with q | q
      · simp at q; simp [q]
      · simp at q; simp [q]
    exact wpOp_mono (fun a3 w3 q => ⟨fun hn => absurd hlate (by rw [hn]; decide), any_anyE _ _ _ _ hlate q⟩) (hall.2 _ hj)) (l.take m) 0 (Array.replicate l.toArray.size false) a (fun j hj => by
      rw [htl] at hj
      simp [hj]) (by rw [htl]; simp) (by omega) ⟨by simp, fun j oj _ hl => (by rw [getD_replicate_false] at hl; cases hl), fun t _ ht => getD_in (by simpa using ht) (getD_replicate_false _ _)⟩ (by rw [htl]; exact hlex) h
  have := anyE_any _ _ _ _ H
  rw [htl, show m + (l.length - m) = l.toArray.size by simp; omega] at this
  exact this
end Go.Proofs.Ytjklaemhfhakhaa
/- A region that draws its order, in an order of one's own: what reads first, calls where nothing else may come up, what writes behind all that reads. No program. -/
namespace Go.Proofs.Ytjklaemhfhakhaa
open Go

/-- What has come up has all that it waits for behind it. -/
def ClR (ops : Array Oper) (listed : Array Bool) : Prop := ∀ j oj, ops[j]? = some oj → listed.getD j false = true → ∀ e ∈ oj.after, Region.binds .any e = true → listed.getD e.on false = true
theorem ClR.set {ops : Array Oper} {listed : Array Bool} {i : Nat} (h : ClR ops listed) (hi : i ∈ Region.ready .any ops listed) : ClR ops (listed.setIfInBounds i true) := by
  obtain ⟨_, oi, hoi, hall⟩ := mem_ready.1 hi
  intro j oj hj hl e he hb
  by_cases hij : i = j
  · subst hij
    obtain rfl : oj = oi := Option.some.inj (hj.symm.trans hoi)
    exact getD_set_true (hall e he hb)
  · rw [getD_set_ne false hij] at hl
    exact getD_set_true (h j oj hj hl e he hb)
/-- j waits for i, by way of others. -/
def reachB (ops : Array Oper) : Nat → Nat → Nat → Bool
  | 0, j, i => Region.waitsFor .any ops j i
  | f + 1, j, i => Region.waitsFor .any ops j i || (List.range ops.size).any fun k => Region.waitsFor .any ops j k && reachB ops f k i
theorem reach_listed {ops : Array Oper} {listed : Array Bool} (h : ClR ops listed) : ∀ (f j i : Nat), reachB ops f j i = true → listed.getD j false = true → listed.getD i false = true := by
  have one : ∀ j i, Region.waitsFor .any ops j i = true → listed.getD j false = true → listed.getD i false = true := fun j i hw hl => by
    obtain ⟨oj, hoj, e, he, hb, hon⟩ := Region.waitsFor_spec hw
    rw [← hon]
    exact h j oj hoj hl e he hb
  intro f
  induction f with
  | zero => exact one
  | succ f ih =>
    intro j i hr hl
    simp only [reachB, Bool.or_eq_true, List.any_eq_true, List.mem_range, Bool.and_eq_true] at hr
    rcases hr with hr | ⟨k, _, hk1, hk2⟩
    · exact one j i hr hl
    · exact ih k i hk2 (one j k hk1 hl)
theorem reach_ready {ops : Array Oper} {listed : Array Bool} (h : ClR ops listed) {f n i : Nat} (hr : reachB ops f n i = true) (hn : n ∈ Region.ready .any ops listed) : listed.getD i false = true := by
  obtain ⟨_, on, hon, hall⟩ := mem_ready.1 hn
  have one : ∀ i, Region.waitsFor .any ops n i = true → listed.getD i false = true := fun i hw => by
    obtain ⟨o2, ho2, e, he, hb, hoe⟩ := Region.waitsFor_spec hw
    obtain rfl : o2 = on := Option.some.inj (ho2.symm.trans hon)
    rw [← hoe]; exact hall e he hb
  cases f with
  | zero => exact one i hr
  | succ f =>
    simp only [reachB, Bool.or_eq_true, List.any_eq_true, List.mem_range, Bool.and_eq_true] at hr
    rcases hr with hr | ⟨k, _, hk1, hk2⟩
    · exact one i hr
    · exact reach_listed h f k i hk2 (one k hk1)
/-- What reads may be taken first: S0 holds as long as number n has not come up; or it looks at no world. -/
theorem anyC_first {P : Program} {ops : Array Oper} {Q : Exit → Act → World → Prop} {n : Nat} {S0 S1 : World → Prop} {i fu : Nat} {oi : Oper} {v : Value} (hin : i ≠ n) (hk : (reachB ops fu n i = true ∧ S1 = S0) ∨ (∀ w, S1 w)) (hi : ops[i]? = some oi) (hsel : ∀ (j : Nat) (o : Oper) cs b, ops[j]? = some o → o.op ≠ .select cs b)
    (hQ : ∀ c a w, Q (.panic c) (a.put oi.dst v) w → Q (.panic c) a w) : ∀ (f : Nat) (listed : Array Bool) (a : Act) (w : World), n < listed.size → ClR ops listed →
    (∀ j oj, ops[j]? = some oj → j ≠ i → listed.getD j true = false → (∀ e ∈ oj.after, Region.binds .any e = true → e.on ≠ i) → oi.apart ops oj = true) →
    i ∈ Region.ready .any ops listed → YieldsIf P ops S1 oi v a → Early n S0 listed w → S1 w →
    anyE P ops Q n S0 f (listed.setIfInBounds i true) (a.put oi.dst v) w → anyE P ops Q n S0 (f + 1) listed a w := by
  have hset : ∀ (listed : Array Bool) (w : World), Early n S0 listed w → Early n S0 (listed.setIfInBounds i true) w := fun listed w h hn => h (by rw [getD_set_ne true hin] at hn; exact hn)
  intro f
  induction f with
  | zero =>
    intro listed a w _ _ _ hr hy hE hS H
    refine ⟨fun h => (by rw [h] at hr; cases hr), fun j hj => ?_⟩
    by_cases hji : j = i
    · subst hji
      exact hy.wpOp hi hS ⟨hset _ _ hE, H⟩
    · have k := ready_mono hj hji
      rw [H.1] at k
      cases k
  | succ f ih =>
    intro listed a w hlt hC hfree hr hy hE hS H
    have hun := (mem_ready.1 hr).1
    refine ⟨fun h => (by rw [h] at hr; cases hr), fun j hj => ?_⟩
    by_cases hji : j = i
    · subst hji
      exact hy.wpOp hi hS ⟨hset _ _ hE, H⟩
    · obtain ⟨hjun, oj, hoj, hall⟩ := mem_ready.1 hj
      have hnot : ∀ e ∈ oj.after, Region.binds .any e = true → e.on ≠ i := fun e he hb heq => by
        have k := hall e he hb
        rw [heq, getD_both hun] at k
        cases k
      have hp := wpOp_putIf hoj (hfree j oj hoj hji hjun hnot) (fun cs b => hsel i oi cs b hi) (fun cs b => hsel j oj cs b hoj) hQ hy (H.2 j (ready_mono hj hji))
      refine wpOp_mono (fun a' w' k => ?_) hp
      obtain ⟨k1, k2, k3⟩ := k
      have hE' : Early n S0 (listed.setIfInBounds j true) w' := fun hn => k2 (by
        by_cases hjn : j = n
        · subst hjn
          rcases Nat.lt_or_ge j listed.size with q | q
          · simp [q] at hn
          · simp [q] at hn
        · rw [getD_set_ne true hjn] at hn ⊢
          rw [getD_set_ne true hin]; exact hn)
      have hS' : S1 w' := by
        rcases hk with ⟨hre, rfl⟩ | hk
        · have hjn : j ≠ n := by
            rintro rfl
            have := reach_ready hC hre hj
            rw [getD_both hun] at this
            cases this
          have hnun : listed.getD n true = false := by
            cases hq : listed.getD n true with
            | false => rfl
            | true =>
              exfalso
              have hq2 : listed.getD n false = true := by simp [hlt] at hq ⊢; exact hq
              have := reach_listed hC _ _ _ hre hq2
              rw [getD_both hun] at this
              cases this
          exact hE' (by rw [getD_set_ne true hjn]; exact hnun)
        · exact hk w'
      rw [Array.setIfInBounds_comm _ _ (Ne.symm hji)] at k3
      refine ⟨hE', ih _ _ _ (by simpa using hlt) (hC.set hj) (fun k ok hk hki hu hno => ?_) (ready_mono hr (Ne.symm hji)) k1 hE' hS' k3⟩
      refine hfree k ok hk hki ?_ hno
      by_cases hjk : j = k
      · subst hjk; exact hjun
      · rw [getD_set_ne true hjk] at hu; exact hu
/-- How an operation comes up: some false: it reads; some true: it is called, where nothing else may come up; none: it looks at no world. -/
def ordB (ops : Array Oper) (g n : Nat) : List (Nat × Option Bool) → Array Bool → Bool
  | [], listed => Region.seqB .any ops g n listed
  | (i, c) :: l, listed => decide (i ≠ n) && (match c with
      | some true => decide (Region.ready .any ops listed = [i])
      | some false => (Region.ready .any ops listed).contains i && Region.free .any ops listed i && reachB ops 6 n i
      | none => (Region.ready .any ops listed).contains i && Region.free .any ops listed i) && ordB ops g n l (listed.setIfInBounds i true)
def OrdW (P : Program) (ops : Array Oper) (Q : Exit → Act → World → Prop) (S0 : World → Prop) (K : Act → World → Prop) : List (Nat × Option Bool) → Act → World → Prop
  | [], a, w => K a w
  | (i, some false) :: l, a, w => ∃ o v d, ops[i]? = some o ∧ o.dst = d ∧ YieldsIf P ops S0 o v a ∧ OrdW P ops Q S0 K l (a.put d v) w
  | (i, none) :: l, a, w => ∃ o v d, ops[i]? = some o ∧ o.dst = d ∧ YieldsIf P ops (fun _ => True) o v a ∧ OrdW P ops Q S0 K l (a.put d v) w
  | (i, some true) :: l, a, w => wpOp P ops Q i (fun a' w' => S0 w' ∧ OrdW P ops Q S0 K l a' w') a w
theorem anyC_ord {P : Program} {ops : Array Oper} {Q : Exit → Act → World → Prop} {n g : Nat} {S0 : World → Prop} {K : Act → World → Prop} (hsel : Region.noSelect ops = true) (hQ : ∀ c a d v w, Q (.panic c) (a.put d v) w → Q (.panic c) a w)
    (hK : ∀ listed a w, Region.seqB .any ops g n listed = true → K a w → anyE P ops Q n S0 g listed a w) : ∀ (l : List (Nat × Option Bool)) (listed : Array Bool) (a : Act) (w : World), S0 w → n < listed.size → ClR ops listed → ordB ops g n l listed = true → OrdW P ops Q S0 K l a w → anyE P ops Q n S0 (l.length + g) listed a w
  | [], listed, a, w, _, _, _, hB, h => by
    rw [List.length_nil, Nat.zero_add]
    exact hK listed a w hB h
  | (i, some false) :: l, listed, a, w, hS, hz, hI, hB, h => by
    simp only [ordB, Bool.and_eq_true, decide_eq_true_eq] at hB
    obtain ⟨⟨hin, ⟨hr, hf⟩, hre⟩, hB'⟩ := hB
    obtain ⟨o, v, d, h0, rfl, hy, hrest⟩ := h
    have hr' : i ∈ Region.ready .any ops listed := by simpa using hr
    rw [show ((i, some false) :: l).length + g = (l.length + g) + 1 by simp; omega]
    refine anyC_first hin (Or.inl ⟨hre, rfl⟩) h0 (Region.noSelect_spec hsel) (fun c a w => hQ c a _ _ w) _ listed a w hz hI (Region.free_spec h0 hf) hr' hy (fun _ => hS) hS ?_
    exact anyC_ord hsel hQ hK l _ _ _ hS (by simpa using hz) (hI.set hr') hB' hrest
  | (i, none) :: l, listed, a, w, hS, hz, hI, hB, h => by
    simp only [ordB, Bool.and_eq_true, decide_eq_true_eq] at hB
    obtain ⟨⟨hin, hr, hf⟩, hB'⟩ := hB
    obtain ⟨o, v, d, h0, rfl, hy, hrest⟩ := h
    have hr' : i ∈ Region.ready .any ops listed := by simpa using hr
    rw [show ((i, none) :: l).length + g = (l.length + g) + 1 by simp; omega]
    refine anyC_first (fu := 0) hin (Or.inr fun _ => trivial) h0 (Region.noSelect_spec hsel) (fun c a w => hQ c a _ _ w) _ listed a w hz hI (Region.free_spec h0 hf) hr' hy (fun _ => hS) trivial ?_
    exact anyC_ord hsel hQ hK l _ _ _ hS (by simpa using hz) (hI.set hr') hB' hrest
  | (i, some true) :: l, listed, a, w, hS, hz, hI, hB, h => by
    simp only [ordB, Bool.and_eq_true, decide_eq_true_eq] at hB
    obtain ⟨⟨hin, hr⟩, hB'⟩ := hB
    have hr' : i ∈ Region.ready .any ops listed := by rw [hr]; simp
    rw [show ((i, some true) :: l).length + g = (l.length + g) + 1 by simp; omega]
    refine ⟨fun h0 => (by rw [hr] at h0; cases h0), fun j hj => ?_⟩
    rw [hr] at hj
    obtain rfl : j = i := by simpa using hj
    exact wpOp_mono (fun a' w' k => ⟨fun _ => k.1, anyC_ord hsel hQ hK l _ _ _ k.1 (by simpa using hz) (hI.set hr') hB' k.2⟩) h
def regB (ops : Array Oper) (n g : Nat) (l : List (Nat × Option Bool)) : Bool := Region.noSelect ops && ordB ops g n l (Array.replicate ops.size false)
theorem wp_region_ord {P : Program} {id : Nat} {Q : Exit → Act → World → Prop} {a : Act} {w : World} {l : List Oper} (n : Nat) (ord : List (Nat × Option Bool)) (S0 : World → Prop) (hm : P.follows .mixedOrders = true) (hlen : n < l.length) (hord : ord.length = n) (hB : regB l.toArray n (l.length - n) ord = true) (hQ : ∀ c a d v w, Q (.panic c) (a.put d v) w → Q (.panic c) a w)
    (hS : S0 w.drew) (h : OrdW P l.toArray Q S0 (fun a' w' => wpList P l.toArray Q (l.drop n) a' w') ord a w.drew) : (Code.region id l.toArray true).wp P Q a w := by
  simp only [regB, Bool.and_eq_true] at hB
  obtain ⟨hs, hlex⟩ := hB
  refine wp_region_any hm ?_
  have H := anyC_ord (P := P) (ops := l.toArray) (Q := Q) (n := n) (g := l.length - n) (S0 := S0) (K := fun a' w' => wpList P l.toArray Q (l.drop n) a' w') hs hQ (fun listed a2 w2 hq hk => by
    obtain ⟨g, hg⟩ : ∃ g, l.length - n = g + 1 := ⟨l.length - n - 1, by omega⟩
    have hgl : (l.drop n).length = g + 1 := by simp; omega
    rw [hg] at hq ⊢
    have hall := wpAny_of_seq (md := .any) (Q' := Q) (l.drop n) n listed a2 w2 (fun j => by simp [List.getElem?_drop]) (by rw [hgl]; exact hq) hk
    rw [hgl] at hall
    simp only [Region.seqB, Bool.and_eq_true, decide_eq_true_eq] at hq
    refine ⟨hall.1, fun j hj => ?_⟩
    have hj2 := hj
    rw [hq.1] at hj2
    obtain rfl : j = n := by simpa using hj2
    have hlate : (listed.setIfInBounds j true).getD j true = true := by
      rcases Nat.lt_or_ge j listed.size with q | q
      · simp [q]
      · simp [q]
    exact wpOp_mono (fun a3 w3 q => ⟨fun hn => absurd hlate (by rw [hn]; decide), any_anyE _ _ _ _ hlate q⟩) (hall.2 _ hj)) ord (Array.replicate l.toArray.size false) a w.drew hS (by simpa using hlen) (fun j oj _ hl => (by rw [getD_replicate_false] at hl; cases hl)) hlex h
  have := anyE_any _ _ _ _ H
  rw [hord, show n + (l.length - n) = l.toArray.size by simp; omega] at this
  exact this
end Go.Proofs.Ytjklaemhfhakhaa
/- Drawn regions. -/
namespace Go.Proofs.Ytjklaemhfhakhaa
open Go.ChangeShapes Go.WideShapes Go.ChangeAt Go.RowKit

theorem wpOp_callG {P : Program} {ops : Array Oper} {Q : Exit → Act → World → Prop} {K : Act → World → Prop} {a : Act} {w : World} {m f : Nat} {o : Oper} {args : Array Operand} {tys : Array TypeId} (d : Option Tmp) (ho : ops[m]? = some o) (hd : o.dst = d) (hw : Region.wanted o (yielded ops a.tmps) = true) (hop : o.op = .call { callee := .value (.func f), args := args, argTypes := tys }) (vs : Array Value) (hvs : args.map a.eval = vs) (hen : (callFunc f vs).run P w = .ok (.enter f vs) w)
    (h : Calls P f vs w (fun e w' => ∃ v, e = .returned v ∧ K (a.put d v) w')) : wpOp P ops Q m K a w := by
  subst hd
  unfold wpOp
  simp only [ho, hw, if_true]
  left
  unfold Oper.wp
  simp [execOp, hop, resolve, invoke, Act.eval, Oper.upon, Deferred.ofValue, hvs, hen]
  refine h.mono ?_
  rintro e w' ⟨v, rfl, hk⟩
  exact hk
/-- A region in an order of one's own, shut: what is behind is not looked into. -/
structure OrdS (P : Program) (ops : Array Oper) (Q : Exit → Act → World → Prop) (S0 : World → Prop) (K : Act → World → Prop) (l : List (Nat × Option Bool)) (a : Act) (w : World) : Prop where
  out : OrdW P ops Q S0 K l a w
theorem OrdS.reads {P : Program} {ops : Array Oper} {Q : Exit → Act → World → Prop} {S0 : World → Prop} {K : Act → World → Prop} {i : Nat} {l : List (Nat × Option Bool)} {a : Act} {w : World} (v : Value) (d : Option Tmp) (o : Oper) (h0 : ops[i]? = some o) (h1 : o.dst = d) (h2 : YieldsIf P ops S0 o v a) (h3 : OrdS P ops Q S0 K l (a.put d v) w) : OrdS P ops Q S0 K ((i, some false) :: l) a w := ⟨⟨o, v, d, h0, h1, h2, h3.out⟩⟩
theorem OrdS.looks {P : Program} {ops : Array Oper} {Q : Exit → Act → World → Prop} {S0 : World → Prop} {K : Act → World → Prop} {i : Nat} {l : List (Nat × Option Bool)} {a : Act} {w : World} (v : Value) (d : Option Tmp) (o : Oper) (h0 : ops[i]? = some o) (h1 : o.dst = d) (h2 : YieldsIf P ops (fun _ => True) o v a) (h3 : OrdS P ops Q S0 K l (a.put d v) w) : OrdS P ops Q S0 K ((i, none) :: l) a w := ⟨⟨o, v, d, h0, h1, h2, h3.out⟩⟩
theorem OrdS.does {P : Program} {ops : Array Oper} {Q : Exit → Act → World → Prop} {S0 : World → Prop} {K : Act → World → Prop} {i : Nat} {l : List (Nat × Option Bool)} {a : Act} {w : World} (h : wpOp P ops Q i (fun a' w' => S0 w' ∧ OrdS P ops Q S0 K l a' w') a w) : OrdS P ops Q S0 K ((i, some true) :: l) a w := ⟨wpOp_mono (fun _ _ k => ⟨k.1, k.2.out⟩) h⟩
theorem OrdS.ends {P : Program} {ops : Array Oper} {Q : Exit → Act → World → Prop} {S0 : World → Prop} {K : Act → World → Prop} {a : Act} {w : World} (h : K a w) : OrdS P ops Q S0 K [] a w := ⟨h⟩
theorem wp_region_shut {P : Program} {id : Nat} {Q : Exit → Act → World → Prop} {a : Act} {w : World} {l : List Oper} (n : Nat) (ord : List (Nat × Option Bool)) (S0 : World → Prop) (hm : P.follows .mixedOrders = true) (hlen : n < l.length) (hord : ord.length = n) (hB : regB l.toArray n (l.length - n) ord = true) (hQ : ∀ c a d v w, Q (.panic c) (a.put d v) w → Q (.panic c) a w)
    (hS : S0 w.drew) (h : OrdS P l.toArray Q S0 (fun a' w' => wpList P l.toArray Q (l.drop n) a' w') ord a w.drew) : (Code.region id l.toArray true).wp P Q a w := wp_region_ord n ord S0 hm hlen hord hB hQ hS h.out
end Go.Proofs.Ytjklaemhfhakhaa

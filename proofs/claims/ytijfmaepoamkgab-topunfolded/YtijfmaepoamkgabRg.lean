/- A region that draws its order: what reads is taken first; one call; what writes comes behind all of it. No program. -/
import Derived.OrdersHeld
import Derived.StillTail
namespace Go.Proofs.Ytijfmaepoamkgab
open Go

theorem put_def (a : Act) (d : Option Tmp) (v : Value) : (a.put d v).defers = a.defers := by cases d <;> rfl
/-- As long as number n has not come up, S0 holds. -/
def Early (n : Nat) (S0 : World → Prop) (listed : Array Bool) (w : World) : Prop := listed.getD n true = false → S0 w
/-- Whatever order is picked; 'Early' holds behind each operation. -/
def anyE (P : Program) (ops : Array Oper) (Q : Exit → Act → World → Prop) (n : Nat) (S0 : World → Prop) : Nat → Array Bool → Act → World → Prop
  | 0, listed, a, w => Region.ready .any ops listed = [] ∧ Q .normal a w
  | f + 1, listed, a, w =>
    (Region.ready .any ops listed = [] → Q .normal a w) ∧
    ∀ i ∈ Region.ready .any ops listed, wpOp P ops Q i (fun a' w' => Early n S0 (listed.setIfInBounds i true) w' ∧ anyE P ops Q n S0 f (listed.setIfInBounds i true) a' w') a w
theorem anyE_any {P : Program} {ops : Array Oper} {Q : Exit → Act → World → Prop} {n : Nat} {S0 : World → Prop} : ∀ (f : Nat) (listed : Array Bool) (a : Act) (w : World), anyE P ops Q n S0 f listed a w → wpAny P .any ops Q f listed a w
  | 0, _, _, _, h => h
  | f + 1, _, _, _, h => ⟨h.1, fun i hi => wpOp_mono (fun a' w' k => anyE_any f _ a' w' k.2) (h.2 i hi)⟩
theorem late_set {n : Nat} {listed : Array Bool} (h : listed.getD n true = true) (i : Nat) : (listed.setIfInBounds i true).getD n true = true := by
  by_cases hi : i = n
  · subst hi
    rcases Nat.lt_or_ge i listed.size with k | k
    · simp [k]
    · simp [k]
  · rw [getD_set_ne true hi]; exact h
theorem any_anyE {P : Program} {ops : Array Oper} {Q : Exit → Act → World → Prop} {n : Nat} {S0 : World → Prop} : ∀ (f : Nat) (listed : Array Bool) (a : Act) (w : World), listed.getD n true = true → wpAny P .any ops Q f listed a w → anyE P ops Q n S0 f listed a w
  | 0, _, _, _, _, h => h
  | f + 1, listed, _, _, hl, h => ⟨h.1, fun i hi => wpOp_mono (fun a' w' k => ⟨fun hn => absurd (late_set hl i) (by rw [hn]; decide), any_anyE f _ a' w' (late_set hl i) k⟩) (h.2 i hi)⟩
/-- An operation that only reads, and for which number n waits, may be taken first. -/
theorem anyE_first {P : Program} {ops : Array Oper} {Q : Exit → Act → World → Prop} {n : Nat} {S0 : World → Prop} {i : Nat} {oi : Oper} {v : Value} (hs : Region.sinkB .any ops n = true) (hc : Region.chainB .any ops n = true) (hn : n < ops.size) (hin : i < n) (hi : ops[i]? = some oi) (hsel : ∀ (j : Nat) (o : Oper) cs b, ops[j]? = some o → o.op ≠ .select cs b)
    (hQ : ∀ c a w, Q (.panic c) (a.put oi.dst v) w → Q (.panic c) a w) : ∀ (f : Nat) (listed : Array Bool) (a : Act) (w : World),
    (∀ j oj, ops[j]? = some oj → j ≠ i → listed.getD j true = false → (∀ e ∈ oj.after, Region.binds .any e = true → e.on ≠ i) → oi.apart ops oj = true) →
    i ∈ Region.ready .any ops listed → YieldsIf P ops S0 oi v a → HeadInv .any ops n listed → S0 w →
    anyE P ops Q n S0 f (listed.setIfInBounds i true) (a.put oi.dst v) w → anyE P ops Q n S0 (f + 1) listed a w := by
  intro f
  induction f with
  | zero =>
    intro listed a w _ hr hy hE hS H
    refine ⟨fun h => (by rw [h] at hr; cases hr), fun j hj => ?_⟩
    by_cases hji : j = i
    · subst hji
      exact hy.wpOp hi hS ⟨fun _ => hS, H⟩
    · have k := ready_mono hj hji
      rw [H.1] at k
      cases k
  | succ f ih =>
    intro listed a w hfree hr hy hE hS H
    have hun := (mem_ready.1 hr).1
    refine ⟨fun h => (by rw [h] at hr; cases hr), fun j hj => ?_⟩
    by_cases hji : j = i
    · subst hji
      exact hy.wpOp hi hS ⟨fun _ => hS, H⟩
    · obtain ⟨hjun, oj, hoj, hall⟩ := mem_ready.1 hj
      have hnot : ∀ e ∈ oj.after, Region.binds .any e = true → e.on ≠ i := fun e he hb heq => by
        have k := hall e he hb
        rw [heq, getD_both hun] at k
        cases k
      have hjn : j < n := by
        rcases Nat.lt_or_ge j n with h | h
        · exact h
        · exact absurd hj (tail_waits hs hc hn hE _ i rfl hin hun j h)
      have hp := wpOp_putIf hoj (hfree j oj hoj hji hjun hnot) (fun cs b => hsel i oi cs b hi) (fun cs b => hsel j oj cs b hoj) hQ hy (H.2 j (ready_mono hj hji))
      refine wpOp_mono (fun a' w' k => ?_) hp
      obtain ⟨k1, k2, k3⟩ := k
      have hE' := hE.set hj hjn
      have hS' : S0 w' := k2 (by rw [getD_set_ne true (by omega), getD_set_ne true (by omega)]; exact hE.tail n (Nat.le_refl _) hn)
      rw [Array.setIfInBounds_comm _ _ (Ne.symm hji)] at k3
      refine ⟨fun _ => hS', ih _ _ _ (fun k ok hk hki hu hno => ?_) (ready_mono hr (Ne.symm hji)) k1 hE' hS' k3⟩
      refine hfree k ok hk hki ?_ hno
      by_cases hjk : j = k
      · subst hjk; exact hjun
      · rw [getD_set_ne true hjk] at hu; exact hu
/-- The values of what is taken first, one by one. -/
def Heads (P : Program) (ops : Array Oper) (S0 : World → Prop) (K : Act → Prop) : List Oper → Act → Prop
  | [], a => K a
  | o :: l, a => ∃ v, YieldsIf P ops S0 o v a ∧ Heads P ops S0 K l (a.put o.dst v)
theorem wpOp_call {P : Program} {ops : Array Oper} {Q : Exit → Act → World → Prop} {K : Act → World → Prop} {a : Act} {w : World} {m f : Nat} {o : Oper} {args : Array Operand} {tys : Array TypeId} (ho : ops[m]? = some o) (hg : o.guard = none) (hop : o.op = .call { callee := .value (.func f), args := args, argTypes := tys }) (vs : Array Value) (hvs : args.map a.eval = vs) (hen : (callFunc f vs).run P w = .ok (.enter f vs) w)
    (h : Calls P f vs w (fun e w' => ∃ v, e = .returned v ∧ K (a.put o.dst v) w')) : wpOp P ops Q m K a w := by
  unfold wpOp
  have hw : Region.wanted o (yielded ops a.tmps) = true := by simp [Region.wanted, hg]
  simp only [ho, hw, if_true]
  left
  unfold Oper.wp
  simp [execOp, hop, resolve, invoke, Act.eval, Oper.upon, Deferred.ofValue, hvs, hen]
  refine h.mono ?_
  rintro e w' ⟨v, rfl, hk⟩
  exact hk
def headsB (ops : Array Oper) (m g : Nat) : Bool := Region.sinkB .any ops (m + 1) && Region.chainB .any ops (m + 1) && Region.noSelect ops && Region.lexHead .any ops g m 0 (Array.replicate ops.size false)
theorem anyE_lex {P : Program} {ops : Array Oper} {Q : Exit → Act → World → Prop} {n g : Nat} {S0 : World → Prop} {w : World} {K : Act → Prop} (hsel : Region.noSelect ops = true) (hs : Region.sinkB .any ops n = true) (hc : Region.chainB .any ops n = true) (hnn : n < ops.size) (hQ : ∀ c a d v w, Q (.panic c) (a.put d v) w → Q (.panic c) a w) (hS : S0 w)
    (hK : ∀ listed a, Region.seqB .any ops g (n - 1) listed = true → listed.getD n true = false → K a → anyE P ops Q n S0 g listed a w) : ∀ (l : List Oper) (k : Nat) (listed : Array Bool) (a : Act),
    (∀ j, j < l.length → l[j]? = ops[k + j]?) → k + l.length = n - 1 → 1 ≤ n → HeadInv .any ops n listed → Region.lexHead .any ops g l.length k listed = true → Heads P ops S0 K l a → anyE P ops Q n S0 (l.length + g) listed a w
  | [], k, listed, a, _, hk, _, hn, hB, h => by
    obtain rfl : k = n - 1 := by simpa using hk
    rw [List.length_nil, Nat.zero_add]
    exact hK listed a (by simpa [Region.lexHead] using hB) (hn.tail n (Nat.le_refl _) hnn) h
  | o :: l, k, listed, a, hl, hk, h1, hn, hB, h => by
    simp only [List.length_cons] at hk
    have h0 : ops[k]? = some o := by simpa using (hl 0 (by simp)).symm
    simp only [List.length_cons, Region.lexHead, Bool.and_eq_true] at hB
    obtain ⟨⟨hr, hf⟩, hB'⟩ := hB
    obtain ⟨v, hy, hrest⟩ := h
    rw [show (o :: l).length + g = (l.length + g) + 1 by simp; omega]
    have hr' : k ∈ Region.ready .any ops listed := by simpa using hr
    refine anyE_first hs hc hnn (by omega) h0 (Region.noSelect_spec hsel) (fun c a w => hQ c a _ _ w) _ listed a w (Region.free_spec h0 hf) hr' hy hn hS ?_
    exact anyE_lex hsel hs hc hnn hQ hS hK l (k + 1) _ _ (fun j hj => by have := hl (j + 1) (by simp; omega); simpa [Nat.add_assoc, Nat.add_comm 1 j] using this) (by omega) h1 (hn.set hr' (by omega)) hB' hrest
theorem wp_region_heads {P : Program} {id : Nat} {Q : Exit → Act → World → Prop} {a : Act} {w : World} {l : List Oper} (m : Nat) (S0 : World → Prop) (hm : P.follows .mixedOrders = true) (hlen : m + 1 < l.length) (hB : headsB l.toArray m (l.length - m) = true) (hQ : ∀ c a d v w, Q (.panic c) (a.put d v) w → Q (.panic c) a w)
    (hS : S0 w.drew) (h : Heads P l.toArray S0 (fun a' => wpOp P l.toArray Q m (fun a2 w2 => S0 w2 ∧ wpList P l.toArray Q (l.drop (m + 1)) a2 w2) a' w.drew) (l.take m) a) : (Code.region id l.toArray true).wp P Q a w := by
  simp only [headsB, Bool.and_eq_true] at hB
  obtain ⟨⟨⟨hsk, hch⟩, hs⟩, hlex⟩ := hB
  refine wp_region_any hm ?_
  have htl : (l.take m).length = m := by simp; omega
  have H := anyE_lex (P := P) (ops := l.toArray) (Q := Q) (n := m + 1) (g := l.length - m) (S0 := S0) (w := w.drew) (K := fun a' => wpOp P l.toArray Q m (fun a2 w2 => S0 w2 ∧ wpList P l.toArray Q (l.drop (m + 1)) a2 w2) a' w.drew) hs hsk hch (by simpa using hlen) hQ hS (fun listed a' hq hn hk => by
    obtain ⟨g, hg⟩ : ∃ g, l.length - m = g + 1 := ⟨l.length - m - 1, by omega⟩
    rw [hg] at hq ⊢
    simp only [Nat.add_sub_cancel, Region.seqB, Bool.and_eq_true, decide_eq_true_eq] at hq
    refine ⟨fun h0 => (by rw [hq.1] at h0; cases h0), fun i hi => ?_⟩
    rw [hq.1] at hi
    obtain rfl : i = m := by simpa using hi
    refine wpOp_mono (fun a2 w2 k => ⟨fun _ => k.1, ?_⟩) hk
    have hsq := hq.2
    have hgl : (l.drop (i + 1)).length = g := by simp; omega
    obtain ⟨g', rfl⟩ : ∃ g', g = g' + 1 := ⟨g - 1, by omega⟩
    have hall := wpAny_of_seq (md := .any) (Q' := Q) (l.drop (i + 1)) (i + 1) (listed.setIfInBounds i true) a2 w2 (fun j => by simp [List.getElem?_drop]) (by rw [hgl]; exact hsq) k.2
    rw [hgl] at hall
    simp only [Region.seqB, Bool.and_eq_true, decide_eq_true_eq] at hsq
    refine ⟨hall.1, fun j hj => ?_⟩
    have hj2 := hj
    rw [hsq.1] at hj2
    obtain rfl : j = i + 1 := by simpa using hj2
    have hlate : ((listed.setIfInBounds i true).setIfInBounds (i + 1) true).getD (i + 1) true = true := by
      rcases Nat.lt_or_ge (i + 1) (listed.setIfInBounds i true).size with q | q
      · simp at q; simp [q]
      · simp at q; simp [q]
    exact wpOp_mono (fun a3 w3 q => ⟨fun hn => absurd hlate (by rw [hn]; decide), any_anyE _ _ _ _ hlate q⟩) (hall.2 _ hj)) (l.take m) 0 (Array.replicate l.toArray.size false) a (fun j hj => by
      rw [htl] at hj
      simp [hj]) (by rw [htl]; simp) (by omega) ⟨by simp, fun j oj _ hl => (by rw [getD_replicate_false] at hl; cases hl), fun t _ ht => getD_in (by simpa using ht) (getD_replicate_false _ _)⟩ (by rw [htl]; exact hlex) h
  have := anyE_any _ _ _ _ H
  rw [htl, show m + (l.length - m) = l.toArray.size by simp; omega] at this
  exact this
end Go.Proofs.Ytijfmaepoamkgab

/- A region that draws its order: what is first only reads, lays blocks and calls what only lays blocks, in whatever order; what writes comes behind all of it. No program. -/
import Derived.Test.YtijfmaepoamkgabRz
namespace Go.Proofs.Ytijfmaepoamkgab
open Go Go.RowKit

theorem any_more {P : Program} {ops : Array Oper} {Q : Exit → Act → World → Prop} : ∀ (f : Nat) (listed : Array Bool) (a : Act) (w : World), wpAny P .any ops Q f listed a w → wpAny P .any ops Q (f + 1) listed a w
  | 0, _, _, _, h => ⟨fun _ => h.2, fun i hi => by rw [h.1] at hi; cases hi⟩
  | f + 1, _, _, _, h => ⟨h.1, fun i hi => wpOp_mono (fun a' w' k => any_more f _ a' w' k) (h.2 i hi)⟩
theorem any_more' {P : Program} {ops : Array Oper} {Q : Exit → Act → World → Prop} {f : Nat} {listed : Array Bool} {a : Act} {w : World} (h : wpAny P .any ops Q f listed a w) : ∀ k, wpAny P .any ops Q (f + k) listed a w
  | 0 => h
  | k + 1 => any_more _ _ _ _ (any_more' h k)
/-- What is known while the first n operations are under way. -/
structure Jn (a : Act) (W0 : World) (ds : List Nat) (V : Nat → Value → World → Prop) (R : Nat → Nat → Value → Value → Prop) (listed : Array Bool) (a' : Act) (w' : World) : Prop where
  gr : Gr W0 w'
  size : a'.tmps.size = a.tmps.size
  defers : a'.defers = a.defers
  rest : ∀ t, t ∉ ds → a'.tmps.getD t undef = a.tmps.getD t undef
  done : ∀ i d, ds[i]? = some d → listed.getD i false = true → V i (a'.tmps.getD d undef) w'
  apart : ∀ i d j e, ds[i]? = some d → ds[j]? = some e → i ≠ j → listed.getD i false = true → listed.getD j false = true → R i j (a'.tmps.getD d undef) (a'.tmps.getD e undef)
/-- How many are left. -/
def leftN (n : Nat) (listed : Array Bool) : Nat := ((List.range n).filter fun j => !(listed.getD j true)).length
theorem leftN_set {n i : Nat} {listed : Array Bool} (hi : i < n) (hl : listed.getD i true = false) : leftN n (listed.setIfInBounds i true) + 1 = leftN n listed := by
  have hs : i < listed.size := by
    rcases Nat.lt_or_ge i listed.size with h | h
    · exact h
    · rw [Array.getD_eq_getD_getElem?, Array.getElem?_eq_none (by omega)] at hl; cases hl
  have hnd : ((List.range n).filter fun j => !(listed.getD j true)).Nodup := List.Nodup.sublist List.filter_sublist List.nodup_range
  have hm : i ∈ ((List.range n).filter fun j => !(listed.getD j true)) := by
    rw [List.mem_filter, List.mem_range]
    exact ⟨hi, by rw [hl]; rfl⟩
  have e : ((List.range n).filter fun j => !((listed.setIfInBounds i true).getD j true)) = ((List.range n).filter fun j => !(listed.getD j true)).erase i := by
    rw [hnd.erase_eq_filter, List.filter_filter]
    apply List.filter_congr
    intro j _
    by_cases e : j = i
    · subst e
      simp [hs]
    · rw [getD_set_ne true (Ne.symm e)]
      simp [e]
  unfold leftN
  rw [e, List.length_erase_of_mem hm]
  have := List.length_pos_of_mem hm
  omega
theorem leftN_zero {n : Nat} {listed : Array Bool} (h : leftN n listed = 0) : ∀ i, i < n → listed.getD i true = true := by
  intro i hi
  unfold leftN at h
  have := List.filter_eq_nil_iff.1 (List.eq_nil_of_length_eq_zero h) i (List.mem_range.2 hi)
  simpa using this
/-- What is first waits for what stands ahead of it alone. -/
def lowB (l : List Oper) (n : Nat) : Bool := (List.range n).all fun i => match l[i]? with | some o => o.after.all fun e => !Region.binds .any e || decide (e.on < i) | none => true
theorem low_spec {l : List Oper} {n : Nat} (h : lowB l n = true) {i : Nat} {o : Oper} (hi : i < n) (ho : l[i]? = some o) : ∀ e ∈ o.after, Region.binds .any e = true → e.on < i := by
  intro e he hb
  have := List.all_eq_true.1 h i (List.mem_range.2 hi)
  simp only [ho] at this
  have := Array.all_eq_true'.1 this e he
  simpa [hb] using this
theorem ready_some {l : List Oper} {n : Nat} (hlow : lowB l n = true) {listed : Array Bool} (hI : HeadInv .any l.toArray n listed) (hn : n < l.length) : ∀ (i : Nat), i < n → listed.getD i true = false → Region.ready .any l.toArray listed ≠ [] := by
  intro i
  induction i using Nat.strongRecOn with
  | ind i ih =>
    intro hi hun hr
    have hl : i < l.length := by omega
    by_cases hall : ∀ e ∈ (l[i]).after, Region.binds .any e = true → listed.getD e.on false = true
    · have : i ∈ Region.ready .any l.toArray listed := mem_ready.2 ⟨hun, l[i], by simp [hl], hall⟩
      rw [hr] at this
      cases this
    · obtain ⟨e, he⟩ := Classical.not_forall.1 hall
      obtain ⟨he1, he⟩ := Classical.not_imp.1 he
      obtain ⟨he2, he3⟩ := Classical.not_imp.1 he
      have hlt := low_spec hlow hi (List.getElem?_eq_getElem hl) e he1 he2
      have hsz : e.on < listed.size := by rw [hI.size]; simp; omega
      exact ih e.on hlt (by omega) (by simp [hsz] at he3 ⊢; exact he3) hr
theorem grow_any {P : Program} {l : List Oper} {Q : Exit → Act → World → Prop} {n : Nat} {ds : List Nat} {V : Nat → Value → World → Prop} {R : Nat → Nat → Value → Value → Prop} {a : Act} {W0 : World} (hn : n < l.length) (hlen : ds.length = n) (hds : (l.take n).map (·.dst) = ds.map some) (hnd : ds.Nodup) (hin : ∀ d ∈ ds, d < a.tmps.size)
    (hlow : lowB l n = true) (hs : Region.sinkB .any l.toArray n = true) (hc : Region.chainB .any l.toArray n = true)
    (hq : Region.seqB .any l.toArray (l.length - n) n (Array.replicate n true ++ Array.replicate (l.length - n) false) = true)
    (hV : ∀ i v w w', V i v w → Gr w w' → V i v w')
    (hstep : ∀ i o, i < n → l[i]? = some o → ∀ listed a' w', Jn a W0 ds V R listed a' w' → (∀ e ∈ o.after, Region.binds .any e = true → listed.getD e.on false = true) → wpOp P l.toArray Q i (fun a'' w'' => ∃ v, a'' = a'.put o.dst v ∧ V i v w'' ∧ Gr w' w'' ∧ ∀ j d, ds[j]? = some d → i ≠ j → listed.getD j false = true → R i j v (a'.tmps.getD d undef) ∧ R j i (a'.tmps.getD d undef) v) a' w')
    (hend : ∀ a' w', Gr W0 w' → a'.tmps.size = a.tmps.size → a'.defers = a.defers → (∀ t, t ∉ ds → a'.tmps.getD t undef = a.tmps.getD t undef) → (∀ i d, ds[i]? = some d → V i (a'.tmps.getD d undef) w') → (∀ i d j e, ds[i]? = some d → ds[j]? = some e → i ≠ j → R i j (a'.tmps.getD d undef) (a'.tmps.getD e undef)) → wpList P l.toArray Q (l.drop n) a' w') :
    ∀ (u : Nat) (listed : Array Bool) (a' : Act) (w' : World), leftN n listed = u → HeadInv .any l.toArray n listed → Jn a W0 ds V R listed a' w' → wpAny P .any l.toArray Q (u + (l.length - n)) listed a' w'
  | 0, listed, a', w', hu, hI, hJ => by
    have hall := leftN_zero hu
    have hdl : (l.drop n).length = l.length - n := by simp
    have hsz := hI.size
    have e : listed = Array.replicate n true ++ Array.replicate (l.length - n) false := by
      apply Array.ext
      · rw [hsz]; simp; omega
      · intro i h1 h2
        by_cases hi : i < n
        · have := hall i hi
          rw [Array.getElem_append_left (by simpa using hi)]
          simp
          simpa [h1] using this
        · have := hI.tail i (by omega) (by rw [← hsz]; exact h1)
          rw [Array.getElem_append_right (by simp; omega)]
          simp
          simpa [h1] using this
    rw [Nat.zero_add]
    have hyes : ∀ i d, ds[i]? = some d → listed.getD i false = true := fun i d hd => by
      have hi : i < n := by rw [← hlen]; exact (List.getElem?_eq_some_iff.1 hd).1
      have := hall i hi
      have hlt : i < listed.size := by rw [hsz]; simp; omega
      simpa [hlt] using this
    have hx := wpAny_of_seq (P := P) (md := .any) (ops := l.toArray) (Q' := Q) (l.drop n) n listed a' w' (fun j => by simp [List.getElem?_drop]) (by rw [hdl, e]; exact hq)
      (hend a' w' hJ.gr hJ.size hJ.defers hJ.rest (fun i d hd => hJ.done i d hd (hyes i d hd)) (fun i d j e hd he hne => hJ.apart i d j e hd he hne (hyes i d hd) (hyes j e he)))
    rw [hdl] at hx
    exact hx
  | u + 1, listed, a', w', hu, hI, hJ => by
    rw [show u + 1 + (l.length - n) = (u + (l.length - n)) + 1 by omega]
    have hsome : ∃ i, i < n ∧ listed.getD i true = false := by
      have : ∃ i, i ∈ ((List.range n).filter fun j => !(listed.getD j true)) := by
        cases hf : ((List.range n).filter fun j => !(listed.getD j true)) with
        | nil => unfold leftN at hu; rw [hf] at hu; cases hu
        | cons x t => exact ⟨x, by simp⟩
      obtain ⟨i, hi⟩ := this
      rw [List.mem_filter, List.mem_range] at hi
      exact ⟨i, hi.1, by simpa using hi.2⟩
    obtain ⟨i0, hi0, hun0⟩ := hsome
    have key : ∀ j ∈ Region.ready .any l.toArray listed, j < n := fun j hj => by
      rcases Nat.lt_or_ge j n with h | h
      · exact h
      · exact absurd hj (tail_waits hs hc (by simpa using hn) hI _ i0 rfl hi0 hun0 j h)
    refine ⟨fun hr => ?_, fun j hj => ?_⟩
    · exact absurd hr (ready_some hlow hI hn i0 hi0 hun0)
    · have hjn := key j hj
      obtain ⟨hjun, o, ho, hall⟩ := mem_ready.1 hj
      have ho' : l[j]? = some o := by simpa using ho
      obtain ⟨d, hd⟩ : ∃ d, ds[j]? = some d := ⟨ds[j]'(by omega), List.getElem?_eq_getElem (by omega)⟩
      have hod : o.dst = some d := by
        have := congrArg (fun x => x[j]?) hds
        simp only [List.getElem?_map, List.getElem?_take, if_pos hjn, ho', hd, Option.map_some] at this
        exact Option.some.inj this
      refine wpOp_mono (fun a2 w2 k => ?_) (hstep j o hjn ho' listed a' w' hJ hall)
      obtain ⟨v, rfl, hv, hg, hR⟩ := k
      have hdm : d ∈ ds := List.mem_of_getElem? hd
      have hda : d < a'.tmps.size := by rw [hJ.size]; exact hin d hdm
      refine grow_any hn hlen hds hnd hin hlow hs hc hq hV hstep hend u _ _ _ (by have := leftN_set hjn hjun; omega) (hI.set hj hjn) ⟨hJ.gr.trans hg, ?_, ?_, ?_, ?_, ?_⟩
      · rw [hod]; simp [Act.put, hJ.size]
      · rw [hod]; simp [Act.put, hJ.defers]
      · intro t ht
        rw [hod]
        have hne : d ≠ t := fun e => ht (e ▸ hdm)
        have := hJ.rest t ht
        simp only [Act.put, Array.getD_eq_getD_getElem?] at this ⊢
        rw [Array.getElem?_setIfInBounds_ne hne]
        exact this
      · intro i d' hd' hl
        rw [hod]
        simp only [Act.put, Array.getD_eq_getD_getElem?]
        by_cases e : i = j
        · subst e
          rw [hd] at hd'
          obtain rfl := Option.some.inj hd'
          rw [Array.getElem?_setIfInBounds_self_of_lt hda]
          exact hv
        · have hne : d ≠ d' := by
            intro he
            subst he
            have h1 := List.getElem?_eq_some_iff.1 hd
            have h2 := List.getElem?_eq_some_iff.1 hd'
            obtain ⟨p1, q1⟩ := h1
            obtain ⟨p2, q2⟩ := h2
            exact e ((List.getElem_inj hnd).1 (q2.trans q1.symm))
          rw [Array.getElem?_setIfInBounds_ne hne]
          have hl' : listed.getD i false = true := by rw [getD_set_ne false (Ne.symm e)] at hl; exact hl
          have := hJ.done i d' hd' hl'
          rw [Array.getD_eq_getD_getElem?] at this
          exact hV _ _ _ _ this hg
      · intro i d1 i2 d2 h1 h2 hne hl1 hl2
        have other : ∀ i d', ds[i]? = some d' → i ≠ j → (listed.setIfInBounds j true).getD i false = true → (a'.tmps.setIfInBounds d v).getD d' undef = a'.tmps.getD d' undef ∧ listed.getD i false = true := by
          intro i d' hd' e hl
          have hne : d ≠ d' := by
            intro he
            subst he
            obtain ⟨p1, q1⟩ := List.getElem?_eq_some_iff.1 hd
            obtain ⟨p2, q2⟩ := List.getElem?_eq_some_iff.1 hd'
            exact e ((List.getElem_inj hnd).1 (q2.trans q1.symm))
          refine ⟨?_, by rw [getD_set_ne false (Ne.symm e)] at hl; exact hl⟩
          simp only [Array.getD_eq_getD_getElem?]
          rw [Array.getElem?_setIfInBounds_ne hne]
        have self : (a'.tmps.setIfInBounds d v).getD d undef = v := by
          simp only [Array.getD_eq_getD_getElem?]
          rw [Array.getElem?_setIfInBounds_self_of_lt hda]
          rfl
        rw [hod]
        show R i i2 ((a'.tmps.setIfInBounds d v).getD d1 undef) ((a'.tmps.setIfInBounds d v).getD d2 undef)
        by_cases e1 : i = j
        · subst e1
          rw [hd] at h1
          obtain rfl := Option.some.inj h1
          obtain ⟨o1, o2⟩ := other i2 d2 h2 (Ne.symm hne) hl2
          rw [self, o1]
          exact (hR i2 d2 h2 hne o2).1
        · obtain ⟨o1, o2⟩ := other i d1 h1 e1 hl1
          rw [o1]
          by_cases e2 : i2 = j
          · subst e2
            rw [hd] at h2
            obtain rfl := Option.some.inj h2
            rw [self]
            exact (hR i d1 h1 (Ne.symm hne) o2).2
          · obtain ⟨o3, o4⟩ := other i2 d2 h2 e2 hl2
            rw [o3]
            exact hJ.apart i d1 i2 d2 h1 h2 hne o2 o4
/-- The law. -/
theorem wp_region_grow {P : Program} {id : Nat} {l : List Oper} {Q : Exit → Act → World → Prop} {a : Act} {w : World} (n : Nat) (ds : List Nat) (V : Nat → Value → World → Prop) (R : Nat → Nat → Value → Value → Prop) (hm : P.follows .mixedOrders = true) (hn : n < l.length) (hlen : ds.length = n) (hds : (l.take n).map (·.dst) = ds.map some) (hnd : ds.Nodup) (hin : ∀ d ∈ ds, d < a.tmps.size)
    (hlow : lowB l n = true) (hs : Region.sinkB .any l.toArray n = true) (hc : Region.chainB .any l.toArray n = true)
    (hq : Region.seqB .any l.toArray (l.length - n) n (Array.replicate n true ++ Array.replicate (l.length - n) false) = true)
    (hV : ∀ i v w w', V i v w → Gr w w' → V i v w')
    (hstep : ∀ i o, i < n → l[i]? = some o → ∀ listed a' w', Jn a w.drew ds V R listed a' w' → (∀ e ∈ o.after, Region.binds .any e = true → listed.getD e.on false = true) → wpOp P l.toArray Q i (fun a'' w'' => ∃ v, a'' = a'.put o.dst v ∧ V i v w'' ∧ Gr w' w'' ∧ ∀ j d, ds[j]? = some d → i ≠ j → listed.getD j false = true → R i j v (a'.tmps.getD d undef) ∧ R j i (a'.tmps.getD d undef) v) a' w')
    (hend : ∀ a' w', Gr w.drew w' → a'.tmps.size = a.tmps.size → a'.defers = a.defers → (∀ t, t ∉ ds → a'.tmps.getD t undef = a.tmps.getD t undef) → (∀ i d, ds[i]? = some d → V i (a'.tmps.getD d undef) w') → (∀ i d j e, ds[i]? = some d → ds[j]? = some e → i ≠ j → R i j (a'.tmps.getD d undef) (a'.tmps.getD e undef)) → wpList P l.toArray Q (l.drop n) a' w') :
    (Code.region id l.toArray true).wp P Q a w := by
  refine wp_region_any hm ?_
  have hI : HeadInv .any l.toArray n (Array.replicate l.toArray.size false) := ⟨by simp, fun j oj _ hl => (by rw [getD_replicate_false] at hl; cases hl), fun t _ ht => getD_in (by simpa using ht) (getD_replicate_false _ _)⟩
  have hJ : Jn a w.drew ds V R (Array.replicate l.toArray.size false) a w.drew := ⟨Gr.refl _, rfl, rfl, fun _ _ => rfl, fun i d _ hl => (by rw [getD_replicate_false] at hl; cases hl), fun i d j e _ _ _ hl => (by rw [getD_replicate_false] at hl; cases hl)⟩
  have H := grow_any (P := P) (Q := Q) hn hlen hds hnd hin hlow hs hc hq hV hstep hend _ _ _ _ rfl hI hJ
  have hle : leftN n (Array.replicate l.toArray.size false) ≤ n := by
    unfold leftN
    have := List.length_filter_le (fun j => !((Array.replicate l.toArray.size false).getD j true)) (List.range n)
    simpa using this
  have := any_more' H (n - leftN n (Array.replicate l.toArray.size false))
  rw [show leftN n (Array.replicate l.toArray.size false) + (l.length - n) + (n - leftN n (Array.replicate l.toArray.size false)) = l.toArray.size by simp at hle ⊢; omega] at this
  exact this
end Go.Proofs.Ytijfmaepoamkgab

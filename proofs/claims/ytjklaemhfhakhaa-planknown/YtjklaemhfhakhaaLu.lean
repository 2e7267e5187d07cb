/- A region that draws its order: each operation leaves a value of a class that may speak of the world, and may make memory; of what was there nothing turns. No program. -/
import Derived.Test.YtjklaemhfhakhaaLo
import Derived.Test.YtjklaemhfhakhaaBa
namespace Go.Proofs.Ytjklaemhfhakhaa
open Go Go.RowKit

def UpS (P : Program) (T : Value → World → Prop) (w : World) : Result Next → Prop
  | .ok (.value v) w' => T v w' ∧ Up w w'
  | .ok (.enter f args) w' => Calls P f args w' (fun e w'' => ∃ v, e = .returned v ∧ T v w'' ∧ Up w w'')
  | _ => False
def UpO (P : Program) (ops : Array Oper) (T : Value → World → Prop) (o : Oper) (a : Act) (w : World) : Prop :=
  (Region.wanted o (yielded ops a.tmps) = true ∧ UpS P T w ((execOp a.eval o).run P w)) ∨ (Region.wanted o (yielded ops a.tmps) = false ∧ T undef w)
theorem UpO.wpOp {P : Program} {ops : Array Oper} {T : Value → World → Prop} {Q : Exit → Act → World → Prop} {K : Act → World → Prop} {o : Oper} {i : Nat} {a : Act} {w : World} (ho : ops[i]? = some o) (h : UpO P ops T o a w)
    (hK : ∀ v w', T v w' → Up w w' → K (a.put o.dst v) w') : wpOp P ops Q i K a w := by
  unfold Go.wpOp
  simp only [ho]
  rcases h with ⟨hw, h⟩ | ⟨hw, h⟩
  · simp only [hw, if_true]
    left
    unfold Oper.wp
    generalize (execOp a.eval o).run P w = r at *
    cases r with
    | ok n w' =>
      cases n <;> simp only [UpS] at h <;> simp only [Oper.upon]
      case value v => exact hK v w' h.1 h.2
      case enter f args =>
        refine h.mono ?_
        rintro e w'' ⟨v, rfl, k1, k2⟩
        exact hK v w'' k1 k2
    | halt x w' => simp only [UpS] at h
  · simp only [hw, Bool.false_eq_true, if_false]
    exact hK undef w h (Up.refl _)
structure UInv (ops : Array Oper) (n : Nat) (T : Nat → Value → World → Prop) (W : World) (a0 : Act) (listed : Array Bool) (a : Act) (w : World) : Prop where
  head : HeadInv .any ops n listed
  up : Up W w
  size : a.tmps.size = a0.tmps.size
  defs : a.defers = a0.defers
  has : ∀ k, k < n → listed.getD k false = true → ∀ d, dstOf ops k = some d → ∃ v, a.tmps[d]? = some v ∧ T k v w
  off : ∀ d, (∀ k, k < n → dstOf ops k ≠ some d) → a.tmps[d]? = a0.tmps[d]?
def allDst (ops : Array Oper) (n : Nat) : Bool := (List.range n).all fun k => (dstOf ops k).isSome
theorem up_any {P : Program} {ops : Array Oper} {Q : Exit → Act → World → Prop} {a0 : Act} {n : Nat} {T : Nat → Value → World → Prop} {W : World} {tl : List Oper} (hn : n < ops.size) (htl : ∀ j, tl[j]? = ops[n + j]?) (hB : looseB ops n a0.tmps.size = true) (hD : allDst ops n = true) (hmono : ∀ k v w w', T k v w → Up w w' → T k v w')
    (hstep : ∀ (vals : Nat → Value) k o w, k < n → ops[k]? = some o → Up W w → (∀ j, j < n → Region.waitsFor .any ops k j = true → T j (vals j) w) → UpO P ops (T k) o (FillA ops vals n a0) w)
    (hend : ∀ (vals : Nat → Value) w, Up W w → (∀ k, k < n → T k (vals k) w) → wpList P ops Q tl (FillA ops vals n a0) w) :
    ∀ (f : Nat) (listed : Array Bool) (a : Act) (w : World), f + (listed.toList.filter (·)).length = ops.size → UInv ops n T W a0 listed a w → wpAny P .any ops Q f listed a w := by
  simp only [looseB, Bool.and_eq_true] at hB
  obtain ⟨⟨⟨⟨⟨hsel, hdown⟩, hs⟩, hc⟩, hops⟩, hseq⟩ := hB
  have hlen : tl.length = ops.size - n := by
    have h1 : tl[tl.length]? = none := by simp
    have h2 : ∀ j, j < ops.size - n → j < tl.length := fun j hj => by
      have := htl j
      rw [Array.getElem?_eq_getElem (by omega : n + j < ops.size)] at this
      exact (List.getElem?_eq_some_iff.1 this).1
    rw [htl] at h1
    have h3 : ops.size ≤ n + tl.length := by simpa using h1
    have h4 : ¬ ops.size - n < tl.length := fun q => by
      have := htl (ops.size - n)
      rw [List.getElem?_eq_getElem q] at this
      have := (Array.getElem?_eq_some_iff.1 this.symm).1
      omega
    omega
  have info : ∀ k, k < n → ∃ o, ops[k]? = some o ∧ (∀ d, o.dst = some d → d < a0.tmps.size ∧ ∀ j, j < n → dstOf ops j = some d → j = k) := by
    intro k hk
    have h1 := List.all_eq_true.1 hops k (List.mem_range.2 hk)
    cases ho : ops[k]? with
    | none => rw [ho] at h1; cases h1
    | some o =>
      rw [ho] at h1
      simp only [Bool.and_eq_true] at h1
      refine ⟨o, rfl, fun d hdd => ?_⟩
      have h2 := h1.1
      rw [hdd] at h2
      simp only [Bool.and_eq_true, decide_eq_true_eq, List.all_eq_true, List.mem_range, Bool.or_eq_true] at h2
      exact ⟨h2.1, fun j hj hjd => (h2.2 j hj).resolve_right (fun q => q hjd)⟩
  have dst_of : ∀ {k o}, ops[k]? = some o → dstOf ops k = o.dst := fun h => by simp [dstOf, h]
  have hdst : ∀ k, k < n → ∃ d, dstOf ops k = some d := fun k hk => Option.isSome_iff_exists.1 (List.all_eq_true.1 hD k (List.mem_range.2 hk))
  have frame : ∀ {listed : Array Bool} {a : Act} {w : World}, UInv ops n T W a0 listed a w → a = FillA ops (fun k => match dstOf ops k with | some d => a.tmps.getD d undef | none => undef) n a0 := by
    intro listed a w inv
    have e1 : a.tmps = (FillA ops (fun k => match dstOf ops k with | some d => a.tmps.getD d undef | none => undef) n a0).tmps := by
      apply Array.ext_getElem?
      intro d
      by_cases hex : ∃ k, k < n ∧ dstOf ops k = some d
      · obtain ⟨k, hk, hdk⟩ := hex
        obtain ⟨o, ho, i1⟩ := info k hk
        obtain ⟨hlt, hu⟩ := i1 d (by rw [← dst_of ho]; exact hdk)
        rw [fill_at ops _ a0 hlt hdk n hk hu]
        simp only [hdk]
        have : d < a.tmps.size := by rw [inv.size]; exact hlt
        simp [Array.getD_eq_getD_getElem?, this]
      · rw [fill_off ops _ a0 n (fun k hk q => hex ⟨k, hk, q⟩)]
        exact inv.off d (fun k hk q => hex ⟨k, hk, q⟩)
    have e2 : a.defers = (FillA ops (fun k => match dstOf ops k with | some d => a.tmps.getD d undef | none => undef) n a0).defers := by rw [fill_defs]; exact inv.defs
    generalize FillA ops (fun k => match dstOf ops k with | some d => a.tmps.getD d undef | none => undef) n a0 = b at e1 e2
    cases a; cases b
    simp only at e1 e2
    rw [e1, e2]
  intro f
  induction f with
  | zero =>
    intro listed a w hf inv
    exfalso
    have hz := inv.head.size
    have h1 : (listed.toList.filter (·)).length < listed.size := by
      have h3 : listed.toList[n]? = some false := by
        have := inv.head.tail n (Nat.le_refl _) hn
        have hns : n < listed.size := by omega
        simp [hns] at this
        simp [hns, this]
      have h4 : (listed.toList.filter (·)).length ≤ listed.toList.length := List.length_filter_le _ _
      rcases Nat.lt_or_ge (listed.toList.filter (·)).length listed.toList.length with q | q
      · simpa using q
      · exfalso
        have h5 := List.length_filter_eq_length_iff.1 (Nat.le_antisymm h4 q)
        have h6 := h5 false (List.mem_of_getElem? h3)
        cases h6
    omega
  | succ f ih =>
    intro listed a w hf inv
    have ea := frame inv
    by_cases hall : ∀ k, k < n → listed.getD k false = true
    · have hz := inv.head.size
      have el : listed = ((List.range ops.size).map fun j => decide (j < n)).toArray := by
        apply Array.ext
        · simp [hz]
        · intro j h1 h2
          simp only [List.getElem_toArray, List.getElem_map, List.getElem_range]
          by_cases hj : j < n
          · have := hall j hj
            simp [h1] at this
            simp [this, hj]
          · have := inv.head.tail j (by omega) (by omega)
            simp [h1] at this
            simp [this, hj]
      have hfl : f + 1 = tl.length := by
        have : (listed.toList.filter (·)).length = n := by
          rw [el]
          simp only [List.filter_map]
          rw [List.length_map]
          have hgo : ∀ m, ((List.range m).filter ((fun b : Bool => b) ∘ fun j => decide (j < n))).length = min m n := by
            intro m
            induction m with
            | zero => simp
            | succ m ih =>
              rw [List.range_succ, List.filter_append, List.length_append, ih]
              by_cases hm : m < n
              · simp [hm]; omega
              · simp [hm]; omega
          rw [hgo]; omega
        omega
      rw [hfl]
      refine wpAny_of_seq tl n listed a w htl ?_ ?_
      · rw [hlen, el]; exact hseq
      · rw [ea]
        refine hend _ w inv.up fun k hk => ?_
        obtain ⟨d, hd⟩ := hdst k hk
        obtain ⟨v, h1, h2⟩ := inv.has k hk (hall k hk) d hd
        simp only [hd]
        rw [getD_same h1]; exact h2
    · obtain ⟨i, hi⟩ := Classical.not_forall.1 hall
      simp only [Classical.not_imp] at hi
      obtain ⟨hin, hiu⟩ := hi
      have hiu' : listed.getD i true = false := getD_in (by rw [inv.head.size]; omega) (by simpa using hiu)
      refine ⟨fun h0 => ?_, fun j hj => ?_⟩
      · exfalso
        have hleast : ∀ m i, i < m → i < n → listed.getD i true = false → ∃ j, j ∈ Region.ready .any ops listed := by
          intro m
          induction m with
          | zero => intro i h; omega
          | succ m ihm =>
            intro i _ hin hun
            by_cases hex : ∃ k, k < i ∧ listed.getD k true = false
            · obtain ⟨k, hk, hku⟩ := hex
              exact ihm k (by omega) (by omega) hku
            · have h1 := List.all_eq_true.1 hdown i (List.mem_range.2 hin)
              obtain ⟨o, ho, _⟩ := info i hin
              rw [ho] at h1
              refine ⟨i, mem_ready.2 ⟨hun, o, ho, fun e he hb => ?_⟩⟩
              have h2 := Array.all_eq_true'.1 h1 e he
              simp only [Bool.or_eq_true, Bool.not_eq_true', decide_eq_true_eq] at h2
              have h3 : e.on < i := h2.resolve_left (by rw [hb]; simp)
              have h4 : ¬ listed.getD e.on true = false := fun q => hex ⟨e.on, h3, q⟩
              have hz : e.on < listed.size := by rw [inv.head.size]; omega
              simp [hz] at h4 ⊢
              exact h4
        obtain ⟨j, hj⟩ := hleast (i + 1) i (by omega) hin hiu'
        rw [h0] at hj
        cases hj
      · have hjn : j < n := by
          rcases Nat.lt_or_ge j n with h | h
          · exact h
          · exact absurd hj (tail_waits hs hc hn inv.head _ i rfl hin hiu' j h)
        obtain ⟨o, ho, i1⟩ := info j hjn
        obtain ⟨hjun, oj, hoj, hafter⟩ := mem_ready.1 hj
        obtain rfl : oj = o := Option.some.inj (hoj.symm.trans ho)
        have hL := hstep (fun k => match dstOf ops k with | some d => a.tmps.getD d undef | none => undef) j oj w hjn ho inv.up (fun k hk hw => by
          obtain ⟨o2, ho2, e, he, hb, hon⟩ := Region.waitsFor_spec hw
          obtain rfl : o2 = oj := Option.some.inj (ho2.symm.trans ho)
          have hl : listed.getD k false = true := by rw [← hon]; exact hafter e he hb
          obtain ⟨d, hd⟩ := hdst k hk
          obtain ⟨v, h1, h2⟩ := inv.has k hk hl d hd
          simp only [hd]
          rw [getD_same h1]; exact h2)
        rw [← ea] at hL
        refine hL.wpOp ho fun v w' hT hU => ?_
        have hjs : j < listed.size := by rw [inv.head.size]; omega
        refine ih _ _ _ ?_ ?_
        · have : ((listed.setIfInBounds j true).toList.filter (·)).length = (listed.toList.filter (·)).length + 1 := by
            rw [Array.toList_setIfInBounds]
            refine filter_set _ _ ?_
            simp [hjs] at hjun
            simp [hjs, hjun]
          omega
        · have hset : ∀ k, (listed.setIfInBounds j true).getD k false = true → k = j ∨ listed.getD k false = true := fun k hk => by
            by_cases e : j = k
            · exact Or.inl e.symm
            · rw [getD_set_ne false e] at hk; exact Or.inr hk
          refine ⟨inv.head.set hj hjn, inv.up.trans hU, by rw [put_size]; exact inv.size, by rw [put_defs]; exact inv.defs, fun k hk hl d hdk => ?_, fun d hno => ?_⟩
          · by_cases e : k = j
            · subst e
              rw [dst_of ho] at hdk
              rw [hdk]
              exact ⟨v, put_at _ _ (by rw [inv.size]; exact (i1 d hdk).1), hT⟩
            · have hl' := (hset k hl).resolve_left e
              obtain ⟨u, h1, h2⟩ := inv.has k hk hl' d hdk
              refine ⟨u, ?_, hmono _ _ _ _ h2 hU⟩
              rw [put_off _ _ (fun q => e ((i1 d q).2 k hk hdk)), h1]
          · rw [put_off _ _ (fun q => hno j hjn (by rw [dst_of ho]; exact q))]
            exact inv.off d hno
def FillL : List Oper → List Value → Act → Act
  | o :: os, v :: vs, a => FillL os vs (a.put o.dst v)
  | _, _, a => a
def valsN (vals : Nat → Value) : Nat → Nat → List Value
  | _, 0 => []
  | k, n + 1 => vals k :: valsN vals (k + 1) n
theorem fill_valsN (ops : Array Oper) (vals : Nat → Value) (a : Act) : ∀ (l : List Oper) (k : Nat), (∀ j, j < l.length → l[j]? = ops[k + j]?) → FillL l (valsN vals k l.length) (FillA ops vals k a) = FillA ops vals (k + l.length) a
  | [], k, _ => by simp [FillL]
  | o :: l, k, h1 => by
    have h0 : ops[k]? = some o := by simpa using (h1 0 (by simp)).symm
    have := fill_valsN ops vals a l (k + 1) (fun j hj => by have := h1 (j + 1) (by simpa using hj); simpa [Nat.add_assoc, Nat.add_comm 1 j] using this)
    rw [List.length_cons, valsN, FillL]
    rw [FillA] at this
    simp only [dstOf, h0, Option.bind_some] at this
    rw [this]
    congr 1
    omega
/-- A class that is kept. -/
def MonoT (T : Value → World → Prop) : Prop := ∀ v w w', T v w → Up w w' → T v w'
def MonoL : List (Value → World → Prop) → Prop
  | [] => True
  | T :: L => MonoT T ∧ MonoL L
def tOf (L : List (Value → World → Prop)) (k : Nat) : Value → World → Prop := L.getD k (fun _ _ => False)
theorem MonoL.at : ∀ {L : List (Value → World → Prop)}, MonoL L → ∀ k, MonoT (tOf L k)
  | [], _, k => by intro v w w' h; simp [tOf] at h
  | T :: L, h, 0 => h.1
  | T :: L, h, k + 1 => MonoL.at (L := L) h.2 k
/-- The classes' facts of the operations that are waited for. -/
def StepsU (P : Program) (ops : Array Oper) (W : World) (n : Nat) (L : List (Value → World → Prop)) (vals : Nat → Value) (a : Act) : Nat → List Oper → List (Value → World → Prop) → Prop
  | k, o :: os, T :: Ts => (∀ w, Up W w → (∀ j, j < n → Region.waitsFor .any ops k j = true → tOf L j (vals j) w) → UpO P ops T o a w) ∧ StepsU P ops W n L vals a (k + 1) os Ts
  | _, _, _ => True
theorem StepsU.at {P : Program} {ops : Array Oper} {W : World} {n : Nat} {L : List (Value → World → Prop)} {vals : Nat → Value} {a : Act} : ∀ {l : List Oper} {M : List (Value → World → Prop)} {i : Nat}, StepsU P ops W n L vals a i l M → ∀ k, k < l.length → k < M.length → ∀ o, l[k]? = some o → ∀ w, Up W w → (∀ j, j < n → Region.waitsFor .any ops (i + k) j = true → tOf L j (vals j) w) → UpO P ops (tOf M k) o a w
  | [], _, _, _, k, h, _, _, _ => by simp at h
  | _ :: _, [], _, _, k, _, h, _, _ => by simp at h
  | o :: l, T :: M, i, h, 0, _, _, o', e => by
    simp only [List.getElem?_cons_zero, Option.some.injEq] at e
    subst e
    exact h.1
  | o :: l, T :: M, i, h, k + 1, h1, h2, o', e => by
    have := StepsU.at h.2 k (by simpa using h1) (by simpa using h2) o' (by simpa using e)
    rw [show i + 1 + k = i + (k + 1) by omega] at this
    exact this
theorem wp_region_up {P : Program} {id : Nat} {Q : Exit → Act → World → Prop} {a : Act} {w : World} {l : List Oper} (n : Nat) (L : List (Value → World → Prop)) (hm : P.follows .mixedOrders = true) (hlen : n < l.length) (hL : L.length = n) (hB : looseB l.toArray n a.tmps.size = true) (hD : allDst l.toArray n = true) (hmono : MonoL L)
    (h : ∀ vals : Nat → Value, StepsU P l.toArray w n L vals (FillL (l.take n) (valsN vals 0 n) a) 0 (l.take n) L ∧ ∀ w', Up w w' → (∀ k, k < n → tOf L k (vals k) w') → wpList P l.toArray Q (l.drop n) (FillL (l.take n) (valsN vals 0 n) a) w') : (Code.region id l.toArray true).wp P Q a w := by
  subst hL
  have key : ∀ vals : Nat → Value, FillL (l.take L.length) (valsN vals 0 L.length) a = FillA l.toArray vals L.length a := by
    intro vals
    have htl : (l.take L.length).length = L.length := by simp; omega
    have := fill_valsN l.toArray vals a (l.take L.length) 0 (fun j hj => by rw [htl] at hj; simp [hj])
    rw [htl, Nat.zero_add] at this
    simpa [FillA] using this
  refine wp_region_any hm ?_
  have inv0 : HeadInv .any l.toArray L.length (Array.replicate l.toArray.size false) :=
    ⟨by simp, fun j oj _ hl => (by rw [getD_replicate_false] at hl; cases hl), fun t _ ht => getD_in (by simpa using ht) (getD_replicate_false _ _)⟩
  refine up_any (T := tOf L) (W := w) (tl := l.drop L.length) (by simpa using hlen) (fun j => by simp [List.getElem?_drop]) hB hD (fun k v w1 w2 h1 h2 => hmono.at k v w1 w2 h1 h2) (fun vals k o w1 hk ho hu hw => ?_) (fun vals w1 hu hT => ?_) _ _ _ _ (by simp) ⟨inv0, Up.drewN w 1, rfl, rfl, fun k _ hl => (by rw [getD_replicate_false] at hl; cases hl), fun _ _ => rfl⟩
  · rw [← key vals]
    exact (h vals).1.at k (by simp; omega) hk o (by simpa [hk] using ho) w1 hu (by simpa using hw)
  · rw [← key vals]
    exact (h vals).2 w1 hu hT
end Go.Proofs.Ytjklaemhfhakhaa

/- A region that draws its order, and whose operations each leave one value of a class, whatever the order (a step of floats may leave any NaN). No program. -/
import Derived.StillTail
import Derived.Test.YtjklaemhfhakhaaBa
namespace Go.Proofs.Ytjklaemhfhakhaa
open Go

def dstOf (ops : Array Oper) (k : Nat) : Option Tmp := (ops[k]?).bind (·.dst)
/-- The values of the first n operations, laid into their slots. -/
def FillA (ops : Array Oper) (vals : Nat → Value) : Nat → Act → Act
  | 0, a => a
  | k + 1, a => (FillA ops vals k a).put (dstOf ops k) (vals k)
theorem put_size (a : Act) (d : Option Tmp) (v : Value) : (a.put d v).tmps.size = a.tmps.size := by cases d <;> simp [Act.put]
theorem put_defs (a : Act) (d : Option Tmp) (v : Value) : (a.put d v).defers = a.defers := by cases d <;> rfl
theorem put_at (a : Act) {d : Tmp} (v : Value) (h : d < a.tmps.size) : (a.put (some d) v).tmps[d]? = some v := by simp [Act.put, h]
theorem put_off (a : Act) {x : Option Tmp} (v : Value) {d : Tmp} (h : x ≠ some d) : (a.put x v).tmps[d]? = a.tmps[d]? := by
  cases x with
  | none => rfl
  | some e => simp [Act.put, Array.getElem?_setIfInBounds_ne (show e ≠ d from fun q => h (by rw [q]))]
theorem fill_size (ops : Array Oper) (vals : Nat → Value) (a : Act) : ∀ n, (FillA ops vals n a).tmps.size = a.tmps.size
  | 0 => rfl
  | n + 1 => by rw [FillA, put_size, fill_size ops vals a n]
theorem fill_defs (ops : Array Oper) (vals : Nat → Value) (a : Act) : ∀ n, (FillA ops vals n a).defers = a.defers
  | 0 => rfl
  | n + 1 => by rw [FillA, put_defs, fill_defs ops vals a n]
theorem fill_off (ops : Array Oper) (vals : Nat → Value) (a : Act) {d : Tmp} : ∀ n, (∀ k, k < n → dstOf ops k ≠ some d) → (FillA ops vals n a).tmps[d]? = a.tmps[d]?
  | 0, _ => rfl
  | n + 1, h => by rw [FillA, put_off _ _ (h n (by omega)), fill_off ops vals a n (fun k hk => h k (by omega))]
theorem fill_at (ops : Array Oper) (vals : Nat → Value) (a : Act) {d : Tmp} {k : Nat} (hd : d < a.tmps.size) (hk : dstOf ops k = some d) : ∀ n, k < n → (∀ j, j < n → dstOf ops j = some d → j = k) → (FillA ops vals n a).tmps[d]? = some (vals k)
  | 0, h, _ => by omega
  | n + 1, h, hu => by
    rw [FillA]
    by_cases e : k = n
    · subst e
      rw [hk]
      exact put_at _ _ (by rw [fill_size]; exact hd)
    · rw [put_off _ _ (fun q => e (hu n (by omega) q).symm)]
      exact fill_at ops vals a hd hk n (by omega) (fun j hj q => hu j (by omega) q)
/-- What is asked of an operation: a value of the class T, and a world of the class C. -/
def LoosS (P : Program) (C : World → Prop) (T : Value → Prop) : Result Next → Prop
  | .ok (.value v) w' => T v ∧ C w'
  | .ok (.enter f args) w' => Calls P f args w' (fun e w'' => ∃ v, e = .returned v ∧ T v ∧ C w'')
  | _ => False
def LoosO (P : Program) (ops : Array Oper) (C : World → Prop) (T : Value → Prop) (o : Oper) (a : Act) : Prop :=
  (Region.wanted o (yielded ops a.tmps) = true ∧ ∀ w, C w → LoosS P C T ((execOp a.eval o).run P w)) ∨ (Region.wanted o (yielded ops a.tmps) = false ∧ T undef)
theorem LoosO.wpOp {P : Program} {ops : Array Oper} {C : World → Prop} {T : Value → Prop} {Q : Exit → Act → World → Prop} {K : Act → World → Prop} {o : Oper} {i : Nat} {a : Act} {w : World} (ho : ops[i]? = some o) (hC : C w) (h : LoosO P ops C T o a)
    (hK : ∀ v w', T v → C w' → K (a.put o.dst v) w') : wpOp P ops Q i K a w := by
  unfold Go.wpOp
  simp only [ho]
  rcases h with ⟨hw, h⟩ | ⟨hw, h⟩
  · simp only [hw, if_true]
    left
    have h1 := h w hC
    unfold Oper.wp
    generalize (execOp a.eval o).run P w = r at *
    cases r with
    | ok n w' =>
      cases n <;> simp only [LoosS] at h1 <;> simp only [Oper.upon]
      case value v => exact hK v w' h1.1 h1.2
      case enter f args =>
        refine h1.mono ?_
        rintro e w'' ⟨v, rfl, k1, k2⟩
        exact hK v w'' k1 k2
    | halt x w' => simp only [LoosS] at h1
  · simp only [hw, Bool.false_eq_true, if_false]
    exact hK undef w h hC
/-- The frame looks alike to o. -/
theorem LoosO.same {P : Program} {ops : Array Oper} {C : World → Prop} {T : Value → Prop} {o : Oper} {a b : Act} (hs : ∀ cs x, o.op ≠ .select cs x) (h : ∀ d ∈ o.looksAt ops, a.tmps[d]? = b.tmps[d]?) (hb : LoosO P ops C T o b) : LoosO P ops C T o a := by
  have e1 : execOp a.eval o = execOp b.eval o := execOp_congr o hs fun x hx => by
    cases x with
    | tmp t =>
      have := h t (List.mem_append_left _ (List.mem_filterMap.2 ⟨.tmp t, by simpa using hx, rfl⟩))
      simp [Act.eval, Array.getD_eq_getD_getElem?, this]
    | _ => rfl
  have e2 : Region.wanted o (yielded ops a.tmps) = Region.wanted o (yielded ops b.tmps) := by
    unfold Region.wanted
    cases hg : o.guard with
    | none => rfl
    | some gw =>
      obtain ⟨g, want⟩ := gw
      have hy : yielded ops a.tmps g = yielded ops b.tmps g := by
        unfold yielded
        cases ht : (ops[g]?).bind (·.dst) with
        | none => rfl
        | some t =>
          have := h t (by simp [Oper.looksAt, hg, ht])
          simp [this]
      simp only [hy]
  unfold LoosO at *
  rw [e1, e2]
  exact hb
/-- What the region must be like: n loose operations, each with a slot of its own; what is looked at is waited for; the others one behind the other. -/
def looseB (ops : Array Oper) (n S : Nat) : Bool :=
  Region.noSelect ops && ((List.range n).all fun k => match ops[k]? with
    | none => false
    | some o => o.after.all fun e => !Region.binds .any e || decide (e.on < k)) && Region.sinkB .any ops n && Region.chainB .any ops n &&
  ((List.range n).all fun k => match ops[k]? with
    | none => false
    | some o => (match o.dst with
        | some d => decide (d < S) && ((List.range n).all fun j => decide (j = k) || decide (dstOf ops j ≠ some d))
        | none => true) && ((o.looksAt ops).all fun d => (List.range n).all fun j => decide (dstOf ops j ≠ some d) || Region.waitsFor .any ops k j)) &&
  Region.seqB .any ops (ops.size - n) n ((List.range ops.size).map fun j => decide (j < n)).toArray
theorem filter_set : ∀ (l : List Bool) (j : Nat), l[j]? = some false → ((l.set j true).filter (·)).length = (l.filter (·)).length + 1
  | [], _, h => by simp at h
  | b :: l, 0, h => by
    simp only [List.getElem?_cons_zero, Option.some.injEq] at h
    subst h
    simp
  | b :: l, j + 1, h => by
    have ih := filter_set l j (by simpa using h)
    cases b <;> simp [ih]
structure LInv (ops : Array Oper) (n : Nat) (T : Nat → Value → Prop) (C : World → Prop) (a0 : Act) (listed : Array Bool) (a : Act) (w : World) : Prop where
  head : HeadInv .any ops n listed
  cls : C w
  size : a.tmps.size = a0.tmps.size
  defs : a.defers = a0.defers
  has : ∀ k, k < n → listed.getD k false = true → ∀ d, dstOf ops k = some d → ∃ v, a.tmps[d]? = some v ∧ T k v
  off : ∀ d, (∀ k, k < n → listed.getD k false = true → dstOf ops k ≠ some d) → a.tmps[d]? = a0.tmps[d]?
theorem getD_same {a : Array Value} {d : Nat} {v : Value} (h : a[d]? = some v) : a.getD d undef = v := by simp [Array.getD_eq_getD_getElem?, h]
theorem loose_any {P : Program} {ops : Array Oper} {Q : Exit → Act → World → Prop} {a0 : Act} {n : Nat} {T : Nat → Value → Prop} {d0 : Nat → Value} {C : World → Prop} {tl : List Oper} (hn : n < ops.size) (htl : ∀ j, tl[j]? = ops[n + j]?) (hB : looseB ops n a0.tmps.size = true) (hd : ∀ k, k < n → T k (d0 k))
    (hstep : ∀ vals : Nat → Value, (∀ k, k < n → T k (vals k)) → ∀ k, k < n → ∀ o, ops[k]? = some o → LoosO P ops C (T k) o (FillA ops vals n a0))
    (hend : ∀ vals : Nat → Value, (∀ k, k < n → T k (vals k)) → ∀ w, C w → wpList P ops Q tl (FillA ops vals n a0) w) :
    ∀ (f : Nat) (listed : Array Bool) (a : Act) (w : World), f + (listed.toList.filter (·)).length = ops.size → LInv ops n T C a0 listed a w → wpAny P .any ops Q f listed a w := by
  simp only [looseB, Bool.and_eq_true] at hB
  obtain ⟨⟨⟨⟨⟨hsel, hdown⟩, hs⟩, hc⟩, hops⟩, hseq⟩ := hB
  have hlen : tl.length = ops.size - n := by
    have h1 : tl[tl.length]? = none := by simp
    have h2 : ∀ j, j < ops.size - n → j < tl.length := fun j hj => by
      have := htl j
      rw [Array.getElem?_eq_getElem (by omega : n + j < ops.size)] at this
      exact (List.getElem?_eq_some_iff.1 this).1
    rw [htl] at h1
    have h3 : ops.size ≤ n + tl.length := by simpa using h1
    have h4 : ¬ ops.size - n < tl.length := fun q => by
      have := htl (ops.size - n)
      rw [List.getElem?_eq_getElem q] at this
      have := (Array.getElem?_eq_some_iff.1 this.symm).1
      omega
    omega
  have info : ∀ k, k < n → ∃ o, ops[k]? = some o ∧ (∀ d, o.dst = some d → d < a0.tmps.size ∧ ∀ j, j < n → dstOf ops j = some d → j = k) ∧ ∀ d ∈ o.looksAt ops, ∀ j, j < n → dstOf ops j = some d → Region.waitsFor .any ops k j = true := by
    intro k hk
    have h1 := List.all_eq_true.1 hops k (List.mem_range.2 hk)
    cases ho : ops[k]? with
    | none => rw [ho] at h1; cases h1
    | some o =>
      rw [ho] at h1
      simp only [Bool.and_eq_true] at h1
      refine ⟨o, rfl, fun d hdd => ?_, fun d hdl j hj hdj => ?_⟩
      · have h2 := h1.1
        rw [hdd] at h2
        simp only [Bool.and_eq_true, decide_eq_true_eq, List.all_eq_true, List.mem_range, Bool.or_eq_true] at h2
        exact ⟨h2.1, fun j hj hjd => (h2.2 j hj).resolve_right (fun q => q hjd)⟩
      · have h2 := List.all_eq_true.1 h1.2 d hdl
        simp only [Bool.or_eq_true, decide_eq_true_eq, List.all_eq_true, List.mem_range] at h2
        exact (h2 j hj).resolve_left (fun q => q hdj)
  have dst_of : ∀ {k o}, ops[k]? = some o → dstOf ops k = o.dst := fun h => by simp [dstOf, h]
  intro f
  induction f with
  | zero =>
    intro listed a w hf inv
    exfalso
    have hz := inv.head.size
    have h1 : (listed.toList.filter (·)).length < listed.size := by
      have h3 : listed.toList[n]? = some false := by
        have := inv.head.tail n (Nat.le_refl _) hn
        have hns : n < listed.size := by omega
        simp [hns] at this
        simp [hns, this]
      have h4 : (listed.toList.filter (·)).length ≤ listed.toList.length := List.length_filter_le _ _
      rcases Nat.lt_or_ge (listed.toList.filter (·)).length listed.toList.length with q | q
      · simpa using q
      · exfalso
        have h5 := List.length_filter_eq_length_iff.1 (Nat.le_antisymm h4 q)
        have h6 := h5 false (List.mem_of_getElem? h3)
        cases h6
    omega
  | succ f ih =>
    intro listed a w hf inv
    by_cases hall : ∀ k, k < n → listed.getD k false = true
    · -- all have come up: the tail
      have hz := inv.head.size
      have el : listed = ((List.range ops.size).map fun j => decide (j < n)).toArray := by
        apply Array.ext
        · simp [hz]
        · intro j h1 h2
          simp only [List.getElem_toArray, List.getElem_map, List.getElem_range]
          by_cases hj : j < n
          · have := hall j hj
            simp [h1] at this
            simp [this, hj]
          · have := inv.head.tail j (by omega) (by omega)
            simp [h1] at this
            simp [this, hj]
      let vals : Nat → Value := fun k => match dstOf ops k with | some d => a.tmps.getD d undef | none => d0 k
      have hv : ∀ k, k < n → T k (vals k) := by
        intro k hk
        cases hdk : dstOf ops k with
        | none => simp only [vals, hdk]; exact hd k hk
        | some d =>
          obtain ⟨v, h1, h2⟩ := inv.has k hk (hall k hk) d hdk
          simp only [vals, hdk]
          rw [getD_same h1]; exact h2
      have ea : a = FillA ops vals n a0 := by
        have e1 : a.tmps = (FillA ops vals n a0).tmps := by
          apply Array.ext_getElem?
          intro d
          by_cases hex : ∃ k, k < n ∧ dstOf ops k = some d
          · obtain ⟨k, hk, hdk⟩ := hex
            obtain ⟨o, ho, i1, _⟩ := info k hk
            obtain ⟨hlt, hu⟩ := i1 d (by rw [← dst_of ho]; exact hdk)
            rw [fill_at ops vals a0 hlt hdk n hk hu]
            obtain ⟨v, h1, _⟩ := inv.has k hk (hall k hk) d hdk
            simp only [vals, hdk]
            rw [getD_same h1, h1]
          · rw [fill_off ops vals a0 n (fun k hk q => hex ⟨k, hk, q⟩)]
            exact inv.off d (fun k hk _ q => hex ⟨k, hk, q⟩)
        have e2 : a.defers = (FillA ops vals n a0).defers := by rw [fill_defs]; exact inv.defs
        cases a; cases hfa : FillA ops vals n a0
        rw [hfa] at e1 e2
        simp only at e1 e2
        rw [e1, e2]
      have hfl : f + 1 = tl.length := by
        have : (listed.toList.filter (·)).length = n := by
          rw [el]
          simp only [List.filter_map]
          rw [List.length_map]
          have hgo : ∀ m, ((List.range m).filter ((fun b : Bool => b) ∘ fun j => decide (j < n))).length = min m n := by
            intro m
            induction m with
            | zero => simp
            | succ m ih =>
              rw [List.range_succ, List.filter_append, List.length_append, ih]
              by_cases hm : m < n
              · simp [hm]; omega
              · simp [hm]; omega
          rw [hgo]; omega
        omega
      rw [hfl]
      refine wpAny_of_seq tl n listed a w htl ?_ ?_
      · rw [hlen, el]; exact hseq
      · rw [ea]; exact hend vals hv w inv.cls
    · obtain ⟨i, hi⟩ := Classical.not_forall.1 hall
      simp only [Classical.not_imp] at hi
      obtain ⟨hin, hiu⟩ := hi
      have hiu' : listed.getD i true = false := getD_in (by rw [inv.head.size]; omega) (by simpa using hiu)
      refine ⟨fun h0 => ?_, fun j hj => ?_⟩
      · -- something is ready: the least that has not come up
        exfalso
        have hleast : ∀ m i, i < m → i < n → listed.getD i true = false → ∃ j, j ∈ Region.ready .any ops listed := by
          intro m
          induction m with
          | zero => intro i h; omega
          | succ m ihm =>
            intro i _ hin hun
            by_cases hex : ∃ k, k < i ∧ listed.getD k true = false
            · obtain ⟨k, hk, hku⟩ := hex
              exact ihm k (by omega) (by omega) hku
            · have h1 := List.all_eq_true.1 hdown i (List.mem_range.2 hin)
              obtain ⟨o, ho, _⟩ := info i hin
              rw [ho] at h1
              refine ⟨i, mem_ready.2 ⟨hun, o, ho, fun e he hb => ?_⟩⟩
              have h2 := Array.all_eq_true'.1 h1 e he
              simp only [Bool.or_eq_true, Bool.not_eq_true', decide_eq_true_eq] at h2
              have h3 : e.on < i := h2.resolve_left (by rw [hb]; simp)
              have h4 : ¬ listed.getD e.on true = false := fun q => hex ⟨e.on, h3, q⟩
              have hz : e.on < listed.size := by rw [inv.head.size]; omega
              simp [hz] at h4 ⊢
              exact h4
        obtain ⟨j, hj⟩ := hleast (i + 1) i (by omega) hin hiu'
        rw [h0] at hj
        cases hj
      · have hjn : j < n := by
          rcases Nat.lt_or_ge j n with h | h
          · exact h
          · exact absurd hj (tail_waits hs hc hn inv.head _ i rfl hin hiu' j h)
        obtain ⟨o, ho, i1, i2⟩ := info j hjn
        obtain ⟨hjun, oj, hoj, hafter⟩ := mem_ready.1 hj
        obtain rfl : oj = o := Option.some.inj (hoj.symm.trans ho)
        let vals : Nat → Value := fun k => match dstOf ops k with | some d => if listed.getD k false = true then a.tmps.getD d undef else d0 k | none => d0 k
        have hv : ∀ k, k < n → T k (vals k) := by
          intro k hk
          cases hdk : dstOf ops k with
          | none => simp only [vals, hdk]; exact hd k hk
          | some d =>
            simp only [vals, hdk]
            split
            · rename_i hl
              obtain ⟨v, h1, h2⟩ := inv.has k hk hl d hdk
              rw [getD_same h1]; exact h2
            · exact hd k hk
        have hL := hstep vals hv j hjn oj ho
        have hL2 : LoosO P ops C (T j) oj a := by
          refine hL.same (Region.noSelect_spec hsel j oj · · ho) fun d hdl => ?_
          by_cases hex : ∃ k, k < n ∧ dstOf ops k = some d
          · obtain ⟨k, hk, hdk⟩ := hex
            have hw := i2 d hdl k hk hdk
            obtain ⟨o2, ho2, e, he, hb, hon⟩ := Region.waitsFor_spec hw
            obtain rfl : o2 = oj := Option.some.inj (ho2.symm.trans ho)
            have hl : listed.getD k false = true := by rw [← hon]; exact hafter e he hb
            obtain ⟨ok, hok, k1, _⟩ := info k hk
            obtain ⟨hlt, hu⟩ := k1 d (by rw [← dst_of hok]; exact hdk)
            rw [fill_at ops vals a0 hlt hdk n hk hu]
            obtain ⟨v, h1, _⟩ := inv.has k hk hl d hdk
            simp only [vals, hdk, hl, if_true]
            rw [getD_same h1, h1]
          · rw [fill_off ops vals a0 n (fun k hk q => hex ⟨k, hk, q⟩)]
            exact inv.off d (fun k hk _ q => hex ⟨k, hk, q⟩)
        refine hL2.wpOp ho inv.cls fun v w' hT hC => ?_
        have hjs : j < listed.size := by rw [inv.head.size]; omega
        refine ih _ _ _ ?_ ?_
        · have : ((listed.setIfInBounds j true).toList.filter (·)).length = (listed.toList.filter (·)).length + 1 := by
            rw [Array.toList_setIfInBounds]
            refine filter_set _ _ ?_
            simp [hjs] at hjun
            simp [hjs, hjun]
          omega
        · have hset : ∀ k, (listed.setIfInBounds j true).getD k false = true → k = j ∨ listed.getD k false = true := fun k hk => by
            by_cases e : j = k
            · exact Or.inl e.symm
            · rw [getD_set_ne false e] at hk; exact Or.inr hk
          refine ⟨inv.head.set hj hjn, hC, by rw [put_size]; exact inv.size, by rw [put_defs]; exact inv.defs, fun k hk hl d hdk => ?_, fun d hno => ?_⟩
          · by_cases e : k = j
            · subst e
              rw [dst_of ho] at hdk
              rw [hdk]
              exact ⟨v, put_at _ _ (by rw [inv.size]; exact (i1 d hdk).1), hT⟩
            · have hl' := (hset k hl).resolve_left e
              obtain ⟨u, h1, h2⟩ := inv.has k hk hl' d hdk
              refine ⟨u, ?_, h2⟩
              rw [put_off _ _ (fun q => e ((i1 d q).2 k hk hdk)), h1]
          · rw [put_off _ _ (fun q => hno j hjn (by simp [hjs]) (by rw [dst_of ho]; exact q))]
            exact inv.off d (fun k hk hl => hno k hk (getD_set_true hl))
theorem wp_region_loose {P : Program} {id : Nat} {Q : Exit → Act → World → Prop} {a : Act} {w : World} {l : List Oper} (n : Nat) (T : Nat → Value → Prop) (d0 : Nat → Value) (C : World → Prop) (hm : P.follows .mixedOrders = true) (hlen : n < l.length) (hB : looseB l.toArray n a.tmps.size = true) (hd : ∀ k, k < n → T k (d0 k)) (hC : C w.drew)
    (hstep : ∀ vals : Nat → Value, (∀ k, k < n → T k (vals k)) → ∀ k, k < n → ∀ o, l.toArray[k]? = some o → LoosO P l.toArray C (T k) o (FillA l.toArray vals n a))
    (hend : ∀ vals : Nat → Value, (∀ k, k < n → T k (vals k)) → ∀ w, C w → wpList P l.toArray Q (l.drop n) (FillA l.toArray vals n a) w) : (Code.region id l.toArray true).wp P Q a w := by
  refine wp_region_any hm ?_
  have inv0 : HeadInv .any l.toArray n (Array.replicate l.toArray.size false) :=
    ⟨by simp, fun j oj _ hl => (by rw [getD_replicate_false] at hl; cases hl), fun t _ ht => getD_in (by simpa using ht) (getD_replicate_false _ _)⟩
  refine loose_any (tl := l.drop n) (by simpa using hlen) (fun j => by simp [List.getElem?_drop]) hB hd hstep hend _ _ _ _ (by simp) ⟨inv0, hC, rfl, rfl, fun k _ hl => (by rw [getD_replicate_false] at hl; cases hl), fun _ _ => rfl⟩
end Go.Proofs.Ytjklaemhfhakhaa
/- A region that draws its order: each operation leaves a value of a class that may speak of the world, and may make memory; of what was there nothing turns. No program. -/
namespace Go.Proofs.Ytjklaemhfhakhaa
open Go Go.RowKit

def UpS (P : Program) (T : Value → World → Prop) (w : World) : Result Next → Prop
  | .ok (.value v) w' => T v w' ∧ Up w w'
  | .ok (.enter f args) w' => Calls P f args w' (fun e w'' => ∃ v, e = .returned v ∧ T v w'' ∧ Up w w'')
  | _ => False
def UpO (P : Program) (ops : Array Oper) (T : Value → World → Prop) (o : Oper) (a : Act) (w : World) : Prop :=
  (Region.wanted o (yielded ops a.tmps) = true ∧ UpS P T w ((execOp a.eval o).run P w)) ∨ (Region.wanted o (yielded ops a.tmps) = false ∧ T undef w)
theorem UpO.wpOp {P : Program} {ops : Array Oper} {T : Value → World → Prop} {Q : Exit → Act → World → Prop} {K : Act → World → Prop} {o : Oper} {i : Nat} {a : Act} {w : World} (ho : ops[i]? = some o) (h : UpO P ops T o a w)
    (hK : ∀ v w', T v w' → Up w w' → K (a.put o.dst v) w') : wpOp P ops Q i K a w := by
  unfold Go.wpOp
  simp only [ho]
  rcases h with ⟨hw, h⟩ | ⟨hw, h⟩
  · simp only [hw, if_true]
    left
    unfold Oper.wp
    generalize (execOp a.eval o).run P w = r at *
    cases r with
    | ok n w' =>
      cases n <;> simp only [UpS] at h <;> simp only [Oper.upon]
      case value v => exact hK v w' h.1 h.2
      case enter f args =>
        refine h.mono ?_
        rintro e w'' ⟨v, rfl, k1, k2⟩
        exact hK v w'' k1 k2
    | halt x w' => simp only [UpS] at h
  · simp only [hw, Bool.false_eq_true, if_false]
    exact hK undef w h (Up.refl _)
structure UInv (ops : Array Oper) (n : Nat) (T : Nat → Value → World → Prop) (W : World) (a0 : Act) (listed : Array Bool) (a : Act) (w : World) : Prop where
  head : HeadInv .any ops n listed
  up : Up W w
  size : a.tmps.size = a0.tmps.size
  defs : a.defers = a0.defers
  has : ∀ k, k < n → listed.getD k false = true → ∀ d, dstOf ops k = some d → ∃ v, a.tmps[d]? = some v ∧ T k v w
  off : ∀ d, (∀ k, k < n → dstOf ops k ≠ some d) → a.tmps[d]? = a0.tmps[d]?
def allDst (ops : Array Oper) (n : Nat) : Bool := (List.range n).all fun k => (dstOf ops k).isSome
theorem up_any {P : Program} {ops : Array Oper} {Q : Exit → Act → World → Prop} {a0 : Act} {n : Nat} {T : Nat → Value → World → Prop} {W : World} {tl : List Oper} (hn : n < ops.size) (htl : ∀ j, tl[j]? = ops[n + j]?) (hB : looseB ops n a0.tmps.size = true) (hD : allDst ops n = true) (hmono : ∀ k v w w', T k v w → Up w w' → T k v w')
    (hstep : ∀ (vals : Nat → Value) k o w, k < n → ops[k]? = some o → Up W w → (∀ j, j < n → Region.waitsFor .any ops k j = true → T j (vals j) w) → UpO P ops (T k) o (FillA ops vals n a0) w)
    (hend : ∀ (vals : Nat → Value) w, Up W w → (∀ k, k < n → T k (vals k) w) → wpList P ops Q tl (FillA ops vals n a0) w) :
    ∀ (f : Nat) (listed : Array Bool) (a : Act) (w : World), f + (listed.toList.filter (·)).length = ops.size → UInv ops n T W a0 listed a w → wpAny P .any ops Q f listed a w := by
  simp only [looseB, Bool.and_eq_true] at hB
  obtain ⟨⟨⟨⟨⟨hsel, hdown⟩, hs⟩, hc⟩, hops⟩, hseq⟩ := hB
  have hlen : tl.length = ops.size - n := by
    have h1 : tl[tl.length]? = none := by simp
    have h2 : ∀ j, j < ops.size - n → j < tl.length := fun j hj => by
      have := htl j
      rw [Array.getElem?_eq_getElem (by omega : n + j < ops.size)] at this
      exact (List.getElem?_eq_some_iff.1 this).1
    rw [htl] at h1
    have h3 : ops.size ≤ n + tl.length := by simpa using h1
    have h4 : ¬ ops.size - n < tl.length := fun q => by
      have := htl (ops.size - n)
      rw [List.getElem?_eq_getElem q] at this
      have := (Array.getElem?_eq_some_iff.1 this.symm).1
      omega
    omega
  have info : ∀ k, k < n → ∃ o, ops[k]? = some o ∧ (∀ d, o.dst = some d → d < a0.tmps.size ∧ ∀ j, j < n → dstOf ops j = some d → j = k) := by
    intro k hk
    have h1 := List.all_eq_true.1 hops k (List.mem_range.2 hk)
    cases ho : ops[k]? with
    | none => rw [ho] at h1; cases h1
    | some o =>
      rw [ho] at h1
      simp only [Bool.and_eq_true] at h1
      refine ⟨o, rfl, fun d hdd => ?_⟩
      have h2 := h1.1
      rw [hdd] at h2
      simp only [Bool.and_eq_true, decide_eq_true_eq, List.all_eq_true, List.mem_range, Bool.or_eq_true] at h2
      exact ⟨h2.1, fun j hj hjd => (h2.2 j hj).resolve_right (fun q => q hjd)⟩
  have dst_of : ∀ {k o}, ops[k]? = some o → dstOf ops k = o.dst := fun h => by simp [dstOf, h]
  have hdst : ∀ k, k < n → ∃ d, dstOf ops k = some d := fun k hk => Option.isSome_iff_exists.1 (List.all_eq_true.1 hD k (List.mem_range.2 hk))
  have frame : ∀ {listed : Array Bool} {a : Act} {w : World}, UInv ops n T W a0 listed a w → a = FillA ops (fun k => match dstOf ops k with | some d => a.tmps.getD d undef | none => undef) n a0 := by
    intro listed a w inv
    have e1 : a.tmps = (FillA ops (fun k => match dstOf ops k with | some d => a.tmps.getD d undef | none => undef) n a0).tmps := by
      apply Array.ext_getElem?
      intro d
      by_cases hex : ∃ k, k < n ∧ dstOf ops k = some d
      · obtain ⟨k, hk, hdk⟩ := hex
        obtain ⟨o, ho, i1⟩ := info k hk
        obtain ⟨hlt, hu⟩ := i1 d (by rw [← dst_of ho]; exact hdk)
        rw [fill_at ops _ a0 hlt hdk n hk hu]
        simp only [hdk]
        have : d < a.tmps.size := by rw [inv.size]; exact hlt
        simp [Array.getD_eq_getD_getElem?, this]
      · rw [fill_off ops _ a0 n (fun k hk q => hex ⟨k, hk, q⟩)]
        exact inv.off d (fun k hk q => hex ⟨k, hk, q⟩)
    have e2 : a.defers = (FillA ops (fun k => match dstOf ops k with | some d => a.tmps.getD d undef | none => undef) n a0).defers := by rw [fill_defs]; exact inv.defs
    generalize FillA ops (fun k => match dstOf ops k with | some d => a.tmps.getD d undef | none => undef) n a0 = b at e1 e2
    cases a; cases b
    simp only at e1 e2
    rw [e1, e2]
  intro f
  induction f with
  | zero =>
    intro listed a w hf inv
    exfalso
    have hz := inv.head.size
    have h1 : (listed.toList.filter (·)).length < listed.size := by
      have h3 : listed.toList[n]? = some false := by
        have := inv.head.tail n (Nat.le_refl _) hn
        have hns : n < listed.size := by omega
        simp [hns] at this
        simp [hns, this]
      have h4 : (listed.toList.filter (·)).length ≤ listed.toList.length := List.length_filter_le _ _
      rcases Nat.lt_or_ge (listed.toList.filter (·)).length listed.toList.length with q | q
      · simpa using q
      · exfalso
        have h5 := List.length_filter_eq_length_iff.1 (Nat.le_antisymm h4 q)
        have h6 := h5 false (List.mem_of_getElem? h3)
        cases h6
    omega
  | succ f ih =>
    intro listed a w hf inv
    have ea := frame inv
    by_cases hall : ∀ k, k < n → listed.getD k false = true
    · have hz := inv.head.size
      have el : listed = ((List.range ops.size).map fun j => decide (j < n)).toArray := by
        apply Array.ext
        · simp [hz]
        · intro j h1 h2
          simp only [List.getElem_toArray, List.getElem_map, List.getElem_range]
          by_cases hj : j < n
          · have := hall j hj
            simp [h1] at this
            simp [this, hj]
          · have := inv.head.tail j (by omega) (by omega)
            simp [h1] at this
            simp [this, hj]
      have hfl : f + 1 = tl.length := by
        have : (listed.toList.filter (·)).length = n := by
          rw [el]
          simp only [List.filter_map]
          rw [List.length_map]
          have hgo : ∀ m, ((List.range m).filter ((fun b : Bool => b) ∘ fun j => decide (j < n))).length = min m n := by
            intro m
            induction m with
            | zero => simp
            | succ m ih =>
              rw [List.range_succ, List.filter_append, List.length_append, ih]
              by_cases hm : m < n
              · simp [hm]; omega
              · simp [hm]; omega
          rw [hgo]; omega
        omega
      rw [hfl]
      refine wpAny_of_seq tl n listed a w htl ?_ ?_
      · rw [hlen, el]; exact hseq
      · rw [ea]
        refine hend _ w inv.up fun k hk => ?_
        obtain ⟨d, hd⟩ := hdst k hk
        obtain ⟨v, h1, h2⟩ := inv.has k hk (hall k hk) d hd
        simp only [hd]
        rw [getD_same h1]; exact h2
    · obtain ⟨i, hi⟩ := Classical.not_forall.1 hall
      simp only [Classical.not_imp] at hi
      obtain ⟨hin, hiu⟩ := hi
      have hiu' : listed.getD i true = false := getD_in (by rw [inv.head.size]; omega) (by simpa using hiu)
      refine ⟨fun h0 => ?_, fun j hj => ?_⟩
      · exfalso
        have hleast : ∀ m i, i < m → i < n → listed.getD i true = false → ∃ j, j ∈ Region.ready .any ops listed := by
          intro m
          induction m with
          | zero => intro i h; omega
          | succ m ihm =>
            intro i _ hin hun
            by_cases hex : ∃ k, k < i ∧ listed.getD k true = false
            · obtain ⟨k, hk, hku⟩ := hex
              exact ihm k (by omega) (by omega) hku
            · have h1 := List.all_eq_true.1 hdown i (List.mem_range.2 hin)
              obtain ⟨o, ho, _⟩ := info i hin
              rw [ho] at h1
              refine ⟨i, mem_ready.2 ⟨hun, o, ho, fun e he hb => ?_⟩⟩
              have h2 := Array.all_eq_true'.1 h1 e he
              simp only [Bool.or_eq_true, Bool.not_eq_true', decide_eq_true_eq] at h2
              have h3 : e.on < i := h2.resolve_left (by rw [hb]; simp)
              have h4 : ¬ listed.getD e.on true = false := fun q => hex ⟨e.on, h3, q⟩
              have hz : e.on < listed.size := by rw [inv.head.size]; omega
              simp [hz] at h4 ⊢
              exact h4
        obtain ⟨j, hj⟩ := hleast (i + 1) i (by omega) hin hiu'
        rw [h0] at hj
        cases hj
      · have hjn : j < n := by
          rcases Nat.lt_or_ge j n with h | h
          · exact h
          · exact absurd hj (tail_waits hs hc hn inv.head _ i rfl hin hiu' j h)
        obtain ⟨o, ho, i1⟩ := info j hjn
        obtain ⟨hjun, oj, hoj, hafter⟩ := mem_ready.1 hj
        obtain rfl : oj = o := Option.some.inj (hoj.symm.trans ho)
        have hL := hstep (fun k => match dstOf ops k with | some d => a.tmps.getD d undef | none => undef) j oj w hjn ho inv.up (fun k hk hw => by
          obtain ⟨o2, ho2, e, he, hb, hon⟩ := Region.waitsFor_spec hw
          obtain rfl : o2 = oj := Option.some.inj (ho2.symm.trans ho)
          have hl : listed.getD k false = true := by rw [← hon]; exact hafter e he hb
          obtain ⟨d, hd⟩ := hdst k hk
          obtain ⟨v, h1, h2⟩ := inv.has k hk hl d hd
          simp only [hd]
          rw [getD_same h1]; exact h2)
        rw [← ea] at hL
        refine hL.wpOp ho fun v w' hT hU => ?_
        have hjs : j < listed.size := by rw [inv.head.size]; omega
        refine ih _ _ _ ?_ ?_
        · have : ((listed.setIfInBounds j true).toList.filter (·)).length = (listed.toList.filter (·)).length + 1 := by
            rw [Array.toList_setIfInBounds]
            refine filter_set _ _ ?_
            simp [hjs] at hjun
            simp [hjs, hjun]
          omega
        · have hset : ∀ k, (listed.setIfInBounds j true).getD k false = true → k = j ∨ listed.getD k false = true := fun k hk => by
            by_cases e : j = k
            · exact Or.inl e.symm
            · rw [getD_set_ne false e] at hk; exact Or.inr hk
          refine ⟨inv.head.set hj hjn, inv.up.trans hU, by rw [put_size]; exact inv.size, by rw [put_defs]; exact inv.defs, fun k hk hl d hdk => ?_, fun d hno => ?_⟩
          · by_cases e : k = j
            · subst e
              rw [dst_of ho] at hdk
              rw [hdk]
              exact ⟨v, put_at _ _ (by rw [inv.size]; exact (i1 d hdk).1), hT⟩
            · have hl' := (hset k hl).resolve_left e
              obtain ⟨u, h1, h2⟩ := inv.has k hk hl' d hdk
              refine ⟨u, ?_, hmono _ _ _ _ h2 hU⟩
              rw [put_off _ _ (fun q => e ((i1 d q).2 k hk hdk)), h1]
          · rw [put_off _ _ (fun q => hno j hjn (by rw [dst_of ho]; exact q))]
            exact inv.off d hno
def FillL : List Oper → List Value → Act → Act
  | o :: os, v :: vs, a => FillL os vs (a.put o.dst v)
  | _, _, a => a
def valsN (vals : Nat → Value) : Nat → Nat → List Value
  | _, 0 => []
  | k, n + 1 => vals k :: valsN vals (k + 1) n
theorem fill_valsN (ops : Array Oper) (vals : Nat → Value) (a : Act) : ∀ (l : List Oper) (k : Nat), (∀ j, j < l.length → l[j]? = ops[k + j]?) → FillL l (valsN vals k l.length) (FillA ops vals k a) = FillA ops vals (k + l.length) a
  | [], k, _ => by simp [FillL]
  | o :: l, k, h1 => by
    have h0 : ops[k]? = some o := by simpa using (h1 0 (by simp)).symm
    have := fill_valsN ops vals a l (k + 1) (fun j hj => by have := h1 (j + 1) (by simpa using hj); simpa [Nat.add_assoc, Nat.add_comm 1 j] using this)
    rw [List.length_cons, valsN, FillL]
    rw [FillA] at this
    simp only [dstOf, h0, Option.bind_some] at this
    rw [this]
    congr 1
    omega
/-- A class that is kept. -/
def MonoT (T : Value → World → Prop) : Prop := ∀ v w w', T v w → Up w w' → T v w'
def MonoL : List (Value → World → Prop) → Prop
  | [] => True
  | T :: L => MonoT T ∧ MonoL L
def tOf (L : List (Value → World → Prop)) (k : Nat) : Value → World → Prop := L.getD k (fun _ _ => False)
theorem MonoL.at : ∀ {L : List (Value → World → Prop)}, MonoL L → ∀ k, MonoT (tOf L k)
  | [], _, k => by intro v w w' h; simp [tOf] at h
  | T :: L, h, 0 => h.1
  | T :: L, h, k + 1 => MonoL.at (L := L) h.2 k
/-- The classes' facts of the operations that are waited for. -/
def StepsU (P : Program) (ops : Array Oper) (W : World) (n : Nat) (L : List (Value → World → Prop)) (vals : Nat → Value) (a : Act) : Nat → List Oper → List (Value → World → Prop) → Prop
  | k, o :: os, T :: Ts => (∀ w, Up W w → (∀ j, j < n → Region.waitsFor .any ops k j = true → tOf L j (vals j) w) → UpO P ops T o a w) ∧ StepsU P ops W n L vals a (k + 1) os Ts
  | _, _, _ => True
theorem StepsU.at {P : Program} {ops : Array Oper} {W : World} {n : Nat} {L : List (Value → World → Prop)} {vals : Nat → Value} {a : Act} : ∀ {l : List Oper} {M : List (Value → World → Prop)} {i : Nat}, StepsU P ops W n L vals a i l M → ∀ k, k < l.length → k < M.length → ∀ o, l[k]? = some o → ∀ w, Up W w → (∀ j, j < n → Region.waitsFor .any ops (i + k) j = true → tOf L j (vals j) w) → UpO P ops (tOf M k) o a w
  | [], _, _, _, k, h, _, _, _ => by simp at h
  | _ :: _, [], _, _, k, _, h, _, _ => by simp at h
  | o :: l, T :: M, i, h, 0, _, _, o', e => by
    simp only [List.getElem?_cons_zero, Option.some.injEq] at e
    subst e
    exact h.1
  | o :: l, T :: M, i, h, k + 1, h1, h2, o', e => by
    have := StepsU.at h.2 k (by simpa using h1) (by simpa using h2) o' (by simpa using e)
    rw [show i + 1 + k = i + (k + 1) by omega] at this
    exact this
theorem wp_region_up {P : Program} {id : Nat} {Q : Exit → Act → World → Prop} {a : Act} {w : World} {l : List Oper} (n : Nat) (L : List (Value → World → Prop)) (hm : P.follows .mixedOrders = true) (hlen : n < l.length) (hL : L.length = n) (hB : looseB l.toArray n a.tmps.size = true) (hD : allDst l.toArray n = true) (hmono : MonoL L)
    (h : ∀ vals : Nat → Value, StepsU P l.toArray w n L vals (FillL (l.take n) (valsN vals 0 n) a) 0 (l.take n) L ∧ ∀ w', Up w w' → (∀ k, k < n → tOf L k (vals k) w') → wpList P l.toArray Q (l.drop n) (FillL (l.take n) (valsN vals 0 n) a) w') : (Code.region id l.toArray true).wp P Q a w := by
  subst hL
  have key : ∀ vals : Nat → Value, FillL (l.take L.length) (valsN vals 0 L.length) a = FillA l.toArray vals L.length a := by
    intro vals
    have htl : (l.take L.length).length = L.length := by simp; omega
    have := fill_valsN l.toArray vals a (l.take L.length) 0 (fun j hj => by rw [htl] at hj; simp [hj])
    rw [htl, Nat.zero_add] at this
    simpa [FillA] using this
  refine wp_region_any hm ?_
  have inv0 : HeadInv .any l.toArray L.length (Array.replicate l.toArray.size false) :=
    ⟨by simp, fun j oj _ hl => (by rw [getD_replicate_false] at hl; cases hl), fun t _ ht => getD_in (by simpa using ht) (getD_replicate_false _ _)⟩
  refine up_any (T := tOf L) (W := w) (tl := l.drop L.length) (by simpa using hlen) (fun j => by simp [List.getElem?_drop]) hB hD (fun k v w1 w2 h1 h2 => hmono.at k v w1 w2 h1 h2) (fun vals k o w1 hk ho hu hw => ?_) (fun vals w1 hu hT => ?_) _ _ _ _ (by simp) ⟨inv0, Up.drewN w 1, rfl, rfl, fun k _ hl => (by rw [getD_replicate_false] at hl; cases hl), fun _ _ => rfl⟩
  · rw [← key vals]
    exact (h vals).1.at k (by simp; omega) hk o (by simpa [hk] using ho) w1 hu (by simpa using hw)
  · rw [← key vals]
    exact (h vals).2 w1 hu hT
end Go.Proofs.Ytjklaemhfhakhaa
/- Steps of a region that draws its order, by what they leave. -/
namespace Go.Proofs.Ytjklaemhfhakhaa
open Go Go.RowKit

abbrev cI (c : Bool) (v : Value) : Value → World → Prop := fun u _ => c = true → u = v
theorem mI (c : Bool) (v : Value) : MonoT (cI c v) := fun _ _ _ h _ => h
abbrev cV (v : Value) : Value → World → Prop := fun u _ => u = v
abbrev cP (W : World) (z : Obj) : Value → World → Prop := fun u w => ∃ b, u = .pointer (some ⟨b, 0, none⟩) ∧ W.heap.size ≤ b ∧ Hid (w.heap[b]? = some z)
theorem mV (v : Value) : MonoT (cV v) := fun _ _ _ h _ => h
theorem mP (W : World) (z : Obj) : MonoT (cP W z) := fun _ _ _ ⟨b, h1, h2, h3⟩ hu => ⟨b, h1, h2, kept2 h3.out hu⟩
theorem UpO.is {P : Program} {ops : Array Oper} {T : Value → World → Prop} {o : Oper} {a : Act} {w : World} (v : Value) (hT : T v w) (hg : o.guard = none) (h : (execOp a.eval o).run P w = .ok (.value v) w) : UpO P ops T o a w :=
  Or.inl ⟨by simp [Region.wanted, hg], by rw [h]; exact ⟨hT, Up.refl _⟩⟩
theorem UpO.isW {P : Program} {ops : Array Oper} {T : Value → World → Prop} {o : Oper} {a : Act} {w : World} (v : Value) (hT : T v w) (hg : Region.wanted o (yielded ops a.tmps) = true) (h : (execOp a.eval o).run P w = .ok (.value v) w) : UpO P ops T o a w :=
  Or.inl ⟨hg, by rw [h]; exact ⟨hT, Up.refl _⟩⟩
theorem UpO.no {P : Program} {ops : Array Oper} {T : Value → World → Prop} {o : Oper} {a : Act} {w : World} (hT : T undef w) (hg : Region.wanted o (yielded ops a.tmps) = false) : UpO P ops T o a w := Or.inr ⟨hg, hT⟩
theorem UpO.al {P : Program} {ops : Array Oper} {W : World} {z : Obj} {o : Oper} {a : Act} {w : World} (hu : Up W w) (hg : o.guard = none) (h : (execOp a.eval o).run P w = .ok (.value (.pointer (some ⟨w.heap.size, 0, none⟩))) (w.alloc z)) : UpO P ops (cP W z) o a w :=
  Or.inl ⟨by simp [Region.wanted, hg], by rw [h]; exact ⟨⟨_, rfl, hu.size, heap_alloc_last w z⟩, Up.alloc _ _⟩⟩
theorem UpO.call {P : Program} {ops : Array Oper} {T : Value → World → Prop} {o : Oper} {f : Nat} {args : Array Operand} {tys : Array TypeId} {a : Act} {w : World} (vs : Array Value) (hw : Region.wanted o (yielded ops a.tmps) = true) (hop : o.op = .call { callee := .value (.func f), args := args, argTypes := tys }) (hvs : args.map a.eval = vs) (hen : (callFunc f vs).run P w = .ok (.enter f vs) w) (h : Calls P f vs w fun e w' => ∃ v, e = .returned v ∧ T v w' ∧ Up w w') : UpO P ops T o a w := by
  refine Or.inl ⟨hw, ?_⟩
  have e2 : (execOp a.eval o).run P w = .ok (.enter f vs) w := by
    simp [execOp, hop, resolve, invoke, Act.eval, Deferred.ofValue, hvs, hen]
  rw [e2]
  exact h
theorem vu_cV {w : World} {v : Value} : ∀ e w', VU w v e w' → ∃ u, e = .returned u ∧ cV v u w' ∧ Up w w' := fun _ _ ⟨h1, h2⟩ => ⟨_, h1, rfl, h2⟩

end Go.Proofs.Ytjklaemhfhakhaa

/- A region that draws its order, and whose operations each leave one value of a class, whatever the order (a step of floats may leave any NaN). No program. -/
import Derived.StillTail
namespace Go.Proofs.Ytjklaemhfhakhaa
open Go

def dstOf (ops : Array Oper) (k : Nat) : Option Tmp := (ops[k]?).bind (·.dst)
/-- The values of the first n operations, laid into their slots. -/
def FillA (ops : Array Oper) (vals : Nat → Value) : Nat → Act → Act
  | 0, a => a
  | k + 1, a => (FillA ops vals k a).put (dstOf ops k) (vals k)
theorem put_size (a : Act) (d : Option Tmp) (v : Value) : (a.put d v).tmps.size = a.tmps.size := by cases d <;> simp [Act.put]
theorem put_defs (a : Act) (d : Option Tmp) (v : Value) : (a.put d v).defers = a.defers := by cases d <;> rfl
theorem put_at (a : Act) {d : Tmp} (v : Value) (h : d < a.tmps.size) : (a.put (some d) v).tmps[d]? = some v := by simp [Act.put, h]
theorem put_off (a : Act) {x : Option Tmp} (v : Value) {d : Tmp} (h : x ≠ some d) : (a.put x v).tmps[d]? = a.tmps[d]? := by
  cases x with
  | none => rfl
  | some e => simp [Act.put, Array.getElem?_setIfInBounds_ne (show e ≠ d from fun q => h (by rw [q]))]
theorem fill_size (ops : Array Oper) (vals : Nat → Value) (a : Act) : ∀ n, (FillA ops vals n a).tmps.size = a.tmps.size
  | 0 => rfl
  | n + 1 => by rw [FillA, put_size, fill_size ops vals a n]
theorem fill_defs (ops : Array Oper) (vals : Nat → Value) (a : Act) : ∀ n, (FillA ops vals n a).defers = a.defers
  | 0 => rfl
  | n + 1 => by rw [FillA, put_defs, fill_defs ops vals a n]
theorem fill_off (ops : Array Oper) (vals : Nat → Value) (a : Act) {d : Tmp} : ∀ n, (∀ k, k < n → dstOf ops k ≠ some d) → (FillA ops vals n a).tmps[d]? = a.tmps[d]?
  | 0, _ => rfl
  | n + 1, h => by rw [FillA, put_off _ _ (h n (by omega)), fill_off ops vals a n (fun k hk => h k (by omega))]
theorem fill_at (ops : Array Oper) (vals : Nat → Value) (a : Act) {d : Tmp} {k : Nat} (hd : d < a.tmps.size) (hk : dstOf ops k = some d) : ∀ n, k < n → (∀ j, j < n → dstOf ops j = some d → j = k) → (FillA ops vals n a).tmps[d]? = some (vals k)
  | 0, h, _ => by omega
  | n + 1, h, hu => by
    rw [FillA]
    by_cases e : k = n
    · subst e
      rw [hk]
      exact put_at _ _ (by rw [fill_size]; exact hd)
    · rw [put_off _ _ (fun q => e (hu n (by omega) q).symm)]
      exact fill_at ops vals a hd hk n (by omega) (fun j hj q => hu j (by omega) q)
/-- What is asked of an operation: a value of the class T, and a world of the class C. -/
def LoosS (P : Program) (C : World → Prop) (T : Value → Prop) : Result Next → Prop
  | .ok (.value v) w' => T v ∧ C w'
  | .ok (.enter f args) w' => Calls P f args w' (fun e w'' => ∃ v, e = .returned v ∧ T v ∧ C w'')
  | _ => False
def LoosO (P : Program) (ops : Array Oper) (C : World → Prop) (T : Value → Prop) (o : Oper) (a : Act) : Prop :=
  (Region.wanted o (yielded ops a.tmps) = true ∧ ∀ w, C w → LoosS P C T ((execOp a.eval o).run P w)) ∨ (Region.wanted o (yielded ops a.tmps) = false ∧ T undef)
theorem LoosO.wpOp {P : Program} {ops : Array Oper} {C : World → Prop} {T : Value → Prop} {Q : Exit → Act → World → Prop} {K : Act → World → Prop} {o : Oper} {i : Nat} {a : Act} {w : World} (ho : ops[i]? = some o) (hC : C w) (h : LoosO P ops C T o a)
    (hK : ∀ v w', T v → C w' → K (a.put o.dst v) w') : wpOp P ops Q i K a w := by
  unfold Go.wpOp
  simp only [ho]
  rcases h with ⟨hw, h⟩ | ⟨hw, h⟩
  · simp only [hw, if_true]
    left
    have h1 := h w hC
    unfold Oper.wp
    generalize (execOp a.eval o).run P w = r at *
    cases r with
    | ok n w' =>
      cases n <;> simp only [LoosS] at h1 <;> simp only [Oper.upon]
      case value v => exact hK v w' h1.1 h1.2
      case enter f args =>
        refine h1.mono ?_
        rintro e w'' ⟨v, rfl, k1, k2⟩
        exact hK v w'' k1 k2
    | halt x w' => simp only [LoosS] at h1
  · simp only [hw, Bool.false_eq_true, if_false]
    exact hK undef w h hC
/-- The frame looks alike to o. -/
theorem LoosO.same {P : Program} {ops : Array Oper} {C : World → Prop} {T : Value → Prop} {o : Oper} {a b : Act} (hs : ∀ cs x, o.op ≠ .select cs x) (h : ∀ d ∈ o.looksAt ops, a.tmps[d]? = b.tmps[d]?) (hb : LoosO P ops C T o b) : LoosO P ops C T o a := by
  have e1 : execOp a.eval o = execOp b.eval o := execOp_congr o hs fun x hx => by
    cases x with
    | tmp t =>
      have := h t (List.mem_append_left _ (List.mem_filterMap.2 ⟨.tmp t, by simpa using hx, rfl⟩))
      simp [Act.eval, Array.getD_eq_getD_getElem?, this]
    | _ => rfl
  have e2 : Region.wanted o (yielded ops a.tmps) = Region.wanted o (yielded ops b.tmps) := by
    unfold Region.wanted
    cases hg : o.guard with
    | none => rfl
    | some gw =>
      obtain ⟨g, want⟩ := gw
      have hy : yielded ops a.tmps g = yielded ops b.tmps g := by
        unfold yielded
        cases ht : (ops[g]?).bind (·.dst) with
        | none => rfl
        | some t =>
          have := h t (by simp [Oper.looksAt, hg, ht])
          simp [this]
      simp only [hy]
  unfold LoosO at *
  rw [e1, e2]
  exact hb
/-- What the region must be like: n loose operations, each with a slot of its own; what is looked at is waited for; the others one behind the other. -/
def looseB (ops : Array Oper) (n S : Nat) : Bool :=
  Region.noSelect ops && ((List.range n).all fun k => match ops[k]? with
    | none => false
    | some o => o.after.all fun e => !Region.binds .any e || decide (e.on < k)) && Region.sinkB .any ops n && Region.chainB .any ops n &&
  ((List.range n).all fun k => match ops[k]? with
    | none => false
    | some o => (match o.dst with
        | some d => decide (d < S) && ((List.range n).all fun j => decide (j = k) || decide (dstOf ops j ≠ some d))
        | none => true) && ((o.looksAt ops).all fun d => (List.range n).all fun j => decide (dstOf ops j ≠ some d) || Region.waitsFor .any ops k j)) &&
  Region.seqB .any ops (ops.size - n) n ((List.range ops.size).map fun j => decide (j < n)).toArray
theorem filter_set : ∀ (l : List Bool) (j : Nat), l[j]? = some false → ((l.set j true).filter (·)).length = (l.filter (·)).length + 1
  | [], _, h => by simp at h
  | b :: l, 0, h => by
    simp only [List.getElem?_cons_zero, Option.some.injEq] at h
    subst h
    simp
  | b :: l, j + 1, h => by
    have ih := filter_set l j (by simpa using h)
    cases b <;> simp [ih]
structure LInv (ops : Array Oper) (n : Nat) (T : Nat → Value → Prop) (C : World → Prop) (a0 : Act) (listed : Array Bool) (a : Act) (w : World) : Prop where
  head : HeadInv .any ops n listed
  cls : C w
  size : a.tmps.size = a0.tmps.size
  defs : a.defers = a0.defers
  has : ∀ k, k < n → listed.getD k false = true → ∀ d, dstOf ops k = some d → ∃ v, a.tmps[d]? = some v ∧ T k v
  off : ∀ d, (∀ k, k < n → listed.getD k false = true → dstOf ops k ≠ some d) → a.tmps[d]? = a0.tmps[d]?
theorem getD_same {a : Array Value} {d : Nat} {v : Value} (h : a[d]? = some v) : a.getD d undef = v := by simp [Array.getD_eq_getD_getElem?, h]
theorem loose_any {P : Program} {ops : Array Oper} {Q : Exit → Act → World → Prop} {a0 : Act} {n : Nat} {T : Nat → Value → Prop} {d0 : Nat → Value} {C : World → Prop} {tl : List Oper} (hn : n < ops.size) (htl : ∀ j, tl[j]? = ops[n + j]?) (hB : looseB ops n a0.tmps.size = true) (hd : ∀ k, k < n → T k (d0 k))
    (hstep : ∀ vals : Nat → Value, (∀ k, k < n → T k (vals k)) → ∀ k, k < n → ∀ o, ops[k]? = some o → LoosO P ops C (T k) o (FillA ops vals n a0))
    (hend : ∀ vals : Nat → Value, (∀ k, k < n → T k (vals k)) → ∀ w, C w → wpList P ops Q tl (FillA ops vals n a0) w) :
    ∀ (f : Nat) (listed : Array Bool) (a : Act) (w : World), f + (listed.toList.filter (·)).length = ops.size → LInv ops n T C a0 listed a w → wpAny P .any ops Q f listed a w := by
  simp only [looseB, Bool.and_eq_true] at hB
  obtain ⟨⟨⟨⟨⟨hsel, hdown⟩, hs⟩, hc⟩, hops⟩, hseq⟩ := hB
  have hlen : tl.length = ops.size - n := by
    have h1 : tl[tl.length]? = none := by simp
    have h2 : ∀ j, j < ops.size - n → j < tl.length := fun j hj => by
      have := htl j
      rw [Array.getElem?_eq_getElem (by omega : n + j < ops.size)] at this
      exact (List.getElem?_eq_some_iff.1 this).1
    rw [htl] at h1
    have h3 : ops.size ≤ n + tl.length := by simpa using h1
    have h4 : ¬ ops.size - n < tl.length := fun q => by
      have := htl (ops.size - n)
      rw [List.getElem?_eq_getElem q] at this
      have := (Array.getElem?_eq_some_iff.1 this.symm).1
      omega
    omega
  have info : ∀ k, k < n → ∃ o, ops[k]? = some o ∧ (∀ d, o.dst = some d → d < a0.tmps.size ∧ ∀ j, j < n → dstOf ops j = some d → j = k) ∧ ∀ d ∈ o.looksAt ops, ∀ j, j < n → dstOf ops j = some d → Region.waitsFor .any ops k j = true := by
    intro k hk
    have h1 := List.all_eq_true.1 hops k (List.mem_range.2 hk)
    cases ho : ops[k]? with
    | none => rw [ho] at h1; cases h1
    | some o =>
      rw [ho] at h1
      simp only [Bool.and_eq_true] at h1
      refine ⟨o, rfl, fun d hdd => ?_, fun d hdl j hj hdj => ?_⟩
      · have h2 := h1.1
        rw [hdd] at h2
        simp only [Bool.and_eq_true, decide_eq_true_eq, List.all_eq_true, List.mem_range, Bool.or_eq_true] at h2
        exact ⟨h2.1, fun j hj hjd => (h2.2 j hj).resolve_right (fun q => q hjd)⟩
      · have h2 := List.all_eq_true.1 h1.2 d hdl
        simp only [Bool.or_eq_true, decide_eq_true_eq, List.all_eq_true, List.mem_range] at h2
        exact (h2 j hj).resolve_left (fun q => q hdj)
  have dst_of : ∀ {k o}, ops[k]? = some o → dstOf ops k = o.dst := fun h => by simp [dstOf, h]
  intro f
  induction f with
  | zero =>
    intro listed a w hf inv
    exfalso
    have hz := inv.head.size
    have h1 : (listed.toList.filter (·)).length < listed.size := by
      have h3 : listed.toList[n]? = some false := by
        have := inv.head.tail n (Nat.le_refl _) hn
        have hns : n < listed.size := by omega
        simp [hns] at this
        simp [hns, this]
      have h4 : (listed.toList.filter (·)).length ≤ listed.toList.length := List.length_filter_le _ _
      rcases Nat.lt_or_ge (listed.toList.filter (·)).length listed.toList.length with q | q
      · simpa using q
      · exfalso
        have h5 := List.length_filter_eq_length_iff.1 (Nat.le_antisymm h4 q)
        have h6 := h5 false (List.mem_of_getElem? h3)
        cases h6
    omega
  | succ f ih =>
    intro listed a w hf inv
    by_cases hall : ∀ k, k < n → listed.getD k false = true
    · -- all have come up: the tail
      have hz := inv.head.size
      have el : listed = ((List.range ops.size).map fun j => decide (j < n)).toArray := by
        apply Array.ext
        · simp [hz]
        · intro j h1 h2
          simp only [List.getElem_toArray, List.getElem_map, List.getElem_range]
          by_cases hj : j < n
          · have := hall j hj
            simp [h1] at this
            simp [this, hj]
          · have := inv.head.tail j (by omega) (by omega)
            simp [h1] at this
            simp [this, hj]
      let vals : Nat → Value := fun k => match dstOf ops k with | some d => a.tmps.getD d undef | none => d0 k
      have hv : ∀ k, k < n → T k (vals k) := by
        intro k hk
        cases hdk : dstOf ops k with
        | none => simp only [vals, hdk]; exact hd k hk
        | some d =>
          obtain ⟨v, h1, h2⟩ := inv.has k hk (hall k hk) d hdk
          simp only [vals, hdk]
          rw [getD_same h1]; exact h2
      have ea : a = FillA ops vals n a0 := by
        have e1 : a.tmps = (FillA ops vals n a0).tmps := by
          apply Array.ext_getElem?
          intro d
          by_cases hex : ∃ k, k < n ∧ dstOf ops k = some d
          · obtain ⟨k, hk, hdk⟩ := hex
            obtain ⟨o, ho, i1, _⟩ := info k hk
            obtain ⟨hlt, hu⟩ := i1 d (by rw [← dst_of ho]; exact hdk)
            rw [fill_at ops vals a0 hlt hdk n hk hu]
            obtain ⟨v, h1, _⟩ := inv.has k hk (hall k hk) d hdk
            simp only [vals, hdk]
            rw [getD_same h1, h1]
          · rw [fill_off ops vals a0 n (fun k hk q => hex ⟨k, hk, q⟩)]
            exact inv.off d (fun k hk _ q => hex ⟨k, hk, q⟩)
        have e2 : a.defers = (FillA ops vals n a0).defers := by rw [fill_defs]; exact inv.defs
        cases a; cases hfa : FillA ops vals n a0
        rw [hfa] at e1 e2
        simp only at e1 e2
        rw [e1, e2]
      have hfl : f + 1 = tl.length := by
        have : (listed.toList.filter (·)).length = n := by
          rw [el]
          simp only [List.filter_map]
          rw [List.length_map]
          have hgo : ∀ m, ((List.range m).filter ((fun b : Bool => b) ∘ fun j => decide (j < n))).length = min m n := by
            intro m
            induction m with
            | zero => simp
            | succ m ih =>
              rw [List.range_succ, List.filter_append, List.length_append, ih]
              by_cases hm : m < n
              · simp [hm]; omega
              · simp [hm]; omega
          rw [hgo]; omega
        omega
      rw [hfl]
      refine wpAny_of_seq tl n listed a w htl ?_ ?_
      · rw [hlen, el]; exact hseq
      · rw [ea]; exact hend vals hv w inv.cls
    · obtain ⟨i, hi⟩ := Classical.not_forall.1 hall
      simp only [Classical.not_imp] at hi
      obtain ⟨hin, hiu⟩ := hi
      have hiu' : listed.getD i true = false := getD_in (by rw [inv.head.size]; omega) (by simpa using hiu)
      refine ⟨fun h0 => ?_, fun j hj => ?_⟩
      · -- something is ready: the least that has not come up
        exfalso
        have hleast : ∀ m i, i < m → i < n → listed.getD i true = false → ∃ j, j ∈ Region.ready .any ops listed := by
          intro m
          induction m with
          | zero => intro i h; omega
          | succ m ihm =>
            intro i _ hin hun
            by_cases hex : ∃ k, k < i ∧ listed.getD k true = false
            · obtain ⟨k, hk, hku⟩ := hex
              exact ihm k (by omega) (by omega) hku
            · have h1 := List.all_eq_true.1 hdown i (List.mem_range.2 hin)
              obtain ⟨o, ho, _⟩ := info i hin
              rw [ho] at h1
              refine ⟨i, mem_ready.2 ⟨hun, o, ho, fun e he hb => ?_⟩⟩
              have h2 := Array.all_eq_true'.1 h1 e he
              simp only [Bool.or_eq_true, Bool.not_eq_true', decide_eq_true_eq] at h2
              have h3 : e.on < i := h2.resolve_left (by rw [hb]; simp)
              have h4 : ¬ listed.getD e.on true = false := fun q => hex ⟨e.on, h3, q⟩
              have hz : e.on < listed.size := by rw [inv.head.size]; omega
              simp [hz] at h4 ⊢
              exact h4
        obtain ⟨j, hj⟩ := hleast (i + 1) i (by omega) hin hiu'
        rw [h0] at hj
        cases hj
      · have hjn : j < n := by
          rcases Nat.lt_or_ge j n with h | h
          · exact h
          · exact absurd hj (tail_waits hs hc hn inv.head _ i rfl hin hiu' j h)
        obtain ⟨o, ho, i1, i2⟩ := info j hjn
        obtain ⟨hjun, oj, hoj, hafter⟩ := mem_ready.1 hj
        obtain rfl : oj = o := Option.some.inj (hoj.symm.trans ho)
        let vals : Nat → Value := fun k => match dstOf ops k with | some d => if listed.getD k false = true then a.tmps.getD d undef else d0 k | none => d0 k
        have hv : ∀ k, k < n → T k (vals k) := by
          intro k hk
          cases hdk : dstOf ops k with
          | none => simp only [vals, hdk]; exact hd k hk
          | some d =>
            simp only [vals, hdk]
            split
            · rename_i hl
              obtain ⟨v, h1, h2⟩ := inv.has k hk hl d hdk
              rw [getD_same h1]; exact h2
            · exact hd k hk
        have hL := hstep vals hv j hjn oj ho
        have hL2 : LoosO P ops C (T j) oj a := by
          refine hL.same (Region.noSelect_spec hsel j oj · · ho) fun d hdl => ?_
          by_cases hex : ∃ k, k < n ∧ dstOf ops k = some d
          · obtain ⟨k, hk, hdk⟩ := hex
            have hw := i2 d hdl k hk hdk
            obtain ⟨o2, ho2, e, he, hb, hon⟩ := Region.waitsFor_spec hw
            obtain rfl : o2 = oj := Option.some.inj (ho2.symm.trans ho)
            have hl : listed.getD k false = true := by rw [← hon]; exact hafter e he hb
            obtain ⟨ok, hok, k1, _⟩ := info k hk
            obtain ⟨hlt, hu⟩ := k1 d (by rw [← dst_of hok]; exact hdk)
            rw [fill_at ops vals a0 hlt hdk n hk hu]
            obtain ⟨v, h1, _⟩ := inv.has k hk hl d hdk
            simp only [vals, hdk, hl, if_true]
            rw [getD_same h1, h1]
          · rw [fill_off ops vals a0 n (fun k hk q => hex ⟨k, hk, q⟩)]
            exact inv.off d (fun k hk _ q => hex ⟨k, hk, q⟩)
        refine hL2.wpOp ho inv.cls fun v w' hT hC => ?_
        have hjs : j < listed.size := by rw [inv.head.size]; omega
        refine ih _ _ _ ?_ ?_
        · have : ((listed.setIfInBounds j true).toList.filter (·)).length = (listed.toList.filter (·)).length + 1 := by
            rw [Array.toList_setIfInBounds]
            refine filter_set _ _ ?_
            simp [hjs] at hjun
            simp [hjs, hjun]
          omega
        · have hset : ∀ k, (listed.setIfInBounds j true).getD k false = true → k = j ∨ listed.getD k false = true := fun k hk => by
            by_cases e : j = k
            · exact Or.inl e.symm
            · rw [getD_set_ne false e] at hk; exact Or.inr hk
          refine ⟨inv.head.set hj hjn, hC, by rw [put_size]; exact inv.size, by rw [put_defs]; exact inv.defs, fun k hk hl d hdk => ?_, fun d hno => ?_⟩
          · by_cases e : k = j
            · subst e
              rw [dst_of ho] at hdk
              rw [hdk]
              exact ⟨v, put_at _ _ (by rw [inv.size]; exact (i1 d hdk).1), hT⟩
            · have hl' := (hset k hl).resolve_left e
              obtain ⟨u, h1, h2⟩ := inv.has k hk hl' d hdk
              refine ⟨u, ?_, h2⟩
              rw [put_off _ _ (fun q => e ((i1 d q).2 k hk hdk)), h1]
          · rw [put_off _ _ (fun q => hno j hjn (by simp [hjs]) (by rw [dst_of ho]; exact q))]
            exact inv.off d (fun k hk hl => hno k hk (getD_set_true hl))
theorem wp_region_loose {P : Program} {id : Nat} {Q : Exit → Act → World → Prop} {a : Act} {w : World} {l : List Oper} (n : Nat) (T : Nat → Value → Prop) (d0 : Nat → Value) (C : World → Prop) (hm : P.follows .mixedOrders = true) (hlen : n < l.length) (hB : looseB l.toArray n a.tmps.size = true) (hd : ∀ k, k < n → T k (d0 k)) (hC : C w.drew)
    (hstep : ∀ vals : Nat → Value, (∀ k, k < n → T k (vals k)) → ∀ k, k < n → ∀ o, l.toArray[k]? = some o → LoosO P l.toArray C (T k) o (FillA l.toArray vals n a))
    (hend : ∀ vals : Nat → Value, (∀ k, k < n → T k (vals k)) → ∀ w, C w → wpList P l.toArray Q (l.drop n) (FillA l.toArray vals n a) w) : (Code.region id l.toArray true).wp P Q a w := by
  refine wp_region_any hm ?_
  have inv0 : HeadInv .any l.toArray n (Array.replicate l.toArray.size false) :=
    ⟨by simp, fun j oj _ hl => (by rw [getD_replicate_false] at hl; cases hl), fun t _ ht => getD_in (by simpa using ht) (getD_replicate_false _ _)⟩
  refine loose_any (tl := l.drop n) (by simpa using hlen) (fun j => by simp [List.getElem?_drop]) hB hd hstep hend _ _ _ _ (by simp) ⟨inv0, hC, rfl, rfl, fun k _ hl => (by rw [getD_replicate_false] at hl; cases hl), fun _ _ => rfl⟩
end Go.Proofs.Ytjklaemhfhakhaa

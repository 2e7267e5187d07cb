/- A region that draws its order, as in the text of loose regions, in which one operation makes memory. No program. -/
import Derived.Test.YtcgbmcnefolgcaaLp
namespace Go.Proofs.Ytcgbmcnefolgcaa
open Go Go.Fl Go.RowKit

/-- What is asked of an operation: a value of the class T, and a world of the class C turned into one of D. -/
def LoosS2 (P : Program) (D : World → Prop) (T : Value → Prop) : Result Next → Prop
  | .ok (.value v) w' => T v ∧ D w'
  | .ok (.enter f args) w' => Calls P f args w' (fun e w'' => ∃ v, e = .returned v ∧ T v ∧ D w'')
  | _ => False
def LoosD (P : Program) (ops : Array Oper) (C D : World → Prop) (T : Value → Prop) (o : Oper) (a : Act) : Prop :=
  (Region.wanted o (yielded ops a.tmps) = true ∧ ∀ w, C w → LoosS2 P D T ((execOp a.eval o).run P w)) ∨ (Region.wanted o (yielded ops a.tmps) = false ∧ T undef ∧ ∀ w, C w → D w)
theorem LoosD.wpOp {P : Program} {ops : Array Oper} {C D : World → Prop} {T : Value → Prop} {Q : Exit → Act → World → Prop} {K : Act → World → Prop} {o : Oper} {i : Nat} {a : Act} {w : World} (ho : ops[i]? = some o) (hC : C w) (h : LoosD P ops C D T o a)
    (hK : ∀ v w', T v → D w' → K (a.put o.dst v) w') : wpOp P ops Q i K a w := by
  unfold Go.wpOp
  simp only [ho]
  rcases h with ⟨hw, h⟩ | ⟨hw, h, hD⟩
  · simp only [hw, if_true]
    left
    have h1 := h w hC
    unfold Oper.wp
    generalize (execOp a.eval o).run P w = r at *
    cases r with
    | ok n w' =>
      cases n <;> simp only [LoosS2] at h1 <;> simp only [Oper.upon]
      case value v => exact hK v w' h1.1 h1.2
      case enter f args =>
        refine h1.mono ?_
        rintro e w'' ⟨v, rfl, k1, k2⟩
        exact hK v w'' k1 k2
    | halt x w' => simp only [LoosS2] at h1
  · simp only [hw, Bool.false_eq_true, if_false]
    exact hK undef w h (hD w hC)
/-- The frame looks alike to o. -/
theorem LoosD.same {P : Program} {ops : Array Oper} {C D : World → Prop} {T : Value → Prop} {o : Oper} {a b : Act} (hs : ∀ cs x, o.op ≠ .select cs x) (h : ∀ d ∈ o.looksAt ops, a.tmps[d]? = b.tmps[d]?) (hb : LoosD P ops C D T o b) : LoosD P ops C D T o a := by
  have e1 : execOp a.eval o = execOp b.eval o := execOp_congr o hs fun x hx => by
    cases x with
    | tmp t =>
      have := h t (List.mem_append_left _ (List.mem_filterMap.2 ⟨.tmp t, by simpa using hx, rfl⟩))
      simp [Act.eval, Array.getD_eq_getD_getElem?, this]
    | _ => rfl
  have e2 : Region.wanted o (yielded ops a.tmps) = Region.wanted o (yielded ops b.tmps) := by
    unfold Region.wanted
    cases hg : o.guard with
    | none => rfl
    | some gw =>
      obtain ⟨g, want⟩ := gw
      have hy : yielded ops a.tmps g = yielded ops b.tmps g := by
        unfold yielded
        cases ht : (ops[g]?).bind (·.dst) with
        | none => rfl
        | some t =>
          have := h t (by simp [Oper.looksAt, hg, ht])
          simp [this]
      simp only [hy]
  unfold LoosD at *
  rw [e1, e2]
  exact hb
structure LInv1 (ops : Array Oper) (n : Nat) (T : Nat → Value → Prop) (C : Bool → World → Prop) (mk : Nat) (a0 : Act) (listed : Array Bool) (a : Act) (w : World) : Prop where
  head : HeadInv .any ops n listed
  cls : C (listed.getD mk false) w
  size : a.tmps.size = a0.tmps.size
  defs : a.defers = a0.defers
  has : ∀ k, k < n → listed.getD k false = true → ∀ d, dstOf ops k = some d → ∃ v, a.tmps[d]? = some v ∧ T k v
  off : ∀ d, (∀ k, k < n → listed.getD k false = true → dstOf ops k ≠ some d) → a.tmps[d]? = a0.tmps[d]?
theorem getD_same1 {a : Array Value} {d : Nat} {v : Value} (h : a[d]? = some v) : a.getD d undef = v := by simp [Array.getD_eq_getD_getElem?, h]
theorem loose_any1 {P : Program} {ops : Array Oper} {Q : Exit → Act → World → Prop} {a0 : Act} {n : Nat} {T : Nat → Value → Prop} {d0 : Nat → Value} {C : Bool → World → Prop} {mk : Nat} (hmk : mk < n) {tl : List Oper} (hn : n < ops.size) (htl : ∀ j, tl[j]? = ops[n + j]?) (hB : looseB ops n a0.tmps.size = true) (hd : ∀ k, k < n → T k (d0 k))
    (hstep : ∀ vals : Nat → Value, (∀ k, k < n → T k (vals k)) → ∀ k, k < n → ∀ o, ops[k]? = some o → if k = mk then LoosD P ops (C false) (C true) (T k) o (FillA ops vals n a0) else ∀ b, LoosD P ops (C b) (C b) (T k) o (FillA ops vals n a0))
    (hend : ∀ vals : Nat → Value, (∀ k, k < n → T k (vals k)) → ∀ w, C true w → wpList P ops Q tl (FillA ops vals n a0) w) :
    ∀ (f : Nat) (listed : Array Bool) (a : Act) (w : World), f + (listed.toList.filter (·)).length = ops.size → LInv1 ops n T C mk a0 listed a w → wpAny P .any ops Q f listed a w := by
  simp only [looseB, Bool.and_eq_true] at hB
  obtain ⟨⟨⟨⟨⟨hsel, hdown⟩, hs⟩, hc⟩, hops⟩, hseq⟩ := hB
  have hlen : tl.length = ops.size - n := by
    have h1 : tl[tl.length]? = none := by simp
    have h2 : ∀ j, j < ops.size - n → j < tl.length := fun j hj => by
      have := htl j
      rw [Array.getElem?_eq_getElem (by omega : n + j < ops.size)] at this
      exact (List.getElem?_eq_some_iff.1 this).1
    rw [htl] at h1
    have h3 : ops.size ≤ n + tl.length := by simpa using h1
    have h4 : ¬ ops.size - n < tl.length := fun q => by
      have := htl (ops.size - n)
      rw [List.getElem?_eq_getElem q] at this
      have := (Array.getElem?_eq_some_iff.1 this.symm).1
      omega
    omega
  have info : ∀ k, k < n → ∃ o, ops[k]? = some o ∧ (∀ d, o.dst = some d → d < a0.tmps.size ∧ ∀ j, j < n → dstOf ops j = some d → j = k) ∧ ∀ d ∈ o.looksAt ops, ∀ j, j < n → dstOf ops j = some d → Region.waitsFor .any ops k j = true := by
    intro k hk
    have h1 := List.all_eq_true.1 hops k (List.mem_range.2 hk)
    cases ho : ops[k]? with
    | none => rw [ho] at h1; cases h1
    | some o =>
      rw [ho] at h1
      simp only [Bool.and_eq_true] at h1
      refine ⟨o, rfl, fun d hdd => ?_, fun d hdl j hj hdj => ?_⟩
      · have h2 := h1.1
        rw [hdd] at h2
        simp only [Bool.and_eq_true, decide_eq_true_eq, List.all_eq_true, List.mem_range, Bool.or_eq_true] at h2
        exact ⟨h2.1, fun j hj hjd => (h2.2 j hj).resolve_right (fun q => q hjd)⟩
      · have h2 := List.all_eq_true.1 h1.2 d hdl
        simp only [Bool.or_eq_true, decide_eq_true_eq, List.all_eq_true, List.mem_range] at h2
        exact (h2 j hj).resolve_left (fun q => q hdj)
  have dst_of : ∀ {k o}, ops[k]? = some o → dstOf ops k = o.dst := fun h => by simp [dstOf, h]
  intro f
  induction f with
  | zero =>
    intro listed a w hf inv
    exfalso
    have hz := inv.head.size
    have h1 : (listed.toList.filter (·)).length < listed.size := by
      have h3 : listed.toList[n]? = some false := by
        have := inv.head.tail n (Nat.le_refl _) hn
        have hns : n < listed.size := by omega
        simp [hns] at this
        simp [hns, this]
      have h4 : (listed.toList.filter (·)).length ≤ listed.toList.length := List.length_filter_le _ _
      rcases Nat.lt_or_ge (listed.toList.filter (·)).length listed.toList.length with q | q
      · simpa using q
      · exfalso
        have h5 := List.length_filter_eq_length_iff.1 (Nat.le_antisymm h4 q)
        have h6 := h5 false (List.mem_of_getElem? h3)
        cases h6
    omega
  | succ f ih =>
    intro listed a w hf inv
    by_cases hall : ∀ k, k < n → listed.getD k false = true
    · -- all have come up: the tail
      have hz := inv.head.size
      have el : listed = ((List.range ops.size).map fun j => decide (j < n)).toArray := by
        apply Array.ext
        · simp [hz]
        · intro j h1 h2
          simp only [List.getElem_toArray, List.getElem_map, List.getElem_range]
          by_cases hj : j < n
          · have := hall j hj
            simp [h1] at this
            simp [this, hj]
          · have := inv.head.tail j (by omega) (by omega)
            simp [h1] at this
            simp [this, hj]
      let vals : Nat → Value := fun k => match dstOf ops k with | some d => a.tmps.getD d undef | none => d0 k
      have hv : ∀ k, k < n → T k (vals k) := by
        intro k hk
        cases hdk : dstOf ops k with
        | none => simp only [vals, hdk]; exact hd k hk
        | some d =>
          obtain ⟨v, h1, h2⟩ := inv.has k hk (hall k hk) d hdk
          simp only [vals, hdk]
          rw [getD_same1 h1]; exact h2
      have ea : a = FillA ops vals n a0 := by
        have e1 : a.tmps = (FillA ops vals n a0).tmps := by
          apply Array.ext_getElem?
          intro d
          by_cases hex : ∃ k, k < n ∧ dstOf ops k = some d
          · obtain ⟨k, hk, hdk⟩ := hex
            obtain ⟨o, ho, i1, _⟩ := info k hk
            obtain ⟨hlt, hu⟩ := i1 d (by rw [← dst_of ho]; exact hdk)
            rw [fill_at ops vals a0 hlt hdk n hk hu]
            obtain ⟨v, h1, _⟩ := inv.has k hk (hall k hk) d hdk
            simp only [vals, hdk]
            rw [getD_same1 h1, h1]
          · rw [fill_off ops vals a0 n (fun k hk q => hex ⟨k, hk, q⟩)]
            exact inv.off d (fun k hk _ q => hex ⟨k, hk, q⟩)
        have e2 : a.defers = (FillA ops vals n a0).defers := by rw [fill_defs]; exact inv.defs
        cases a; cases hfa : FillA ops vals n a0
        rw [hfa] at e1 e2
        simp only at e1 e2
        rw [e1, e2]
      have hfl : f + 1 = tl.length := by
        have : (listed.toList.filter (·)).length = n := by
          rw [el]
          simp only [List.filter_map]
          rw [List.length_map]
          have hgo : ∀ m, ((List.range m).filter ((fun b : Bool => b) ∘ fun j => decide (j < n))).length = min m n := by
            intro m
            induction m with
            | zero => simp
            | succ m ih =>
              rw [List.range_succ, List.filter_append, List.length_append, ih]
              by_cases hm : m < n
              · simp [hm]; omega
              · simp [hm]; omega
          rw [hgo]; omega
        omega
      rw [hfl]
      refine wpAny_of_seq tl n listed a w htl ?_ ?_
      · rw [hlen, el]; exact hseq
      · rw [ea]; exact hend vals hv w (by have := inv.cls; rwa [hall mk hmk] at this)
    · obtain ⟨i, hi⟩ := Classical.not_forall.1 hall
      simp only [Classical.not_imp] at hi
      obtain ⟨hin, hiu⟩ := hi
      have hiu' : listed.getD i true = false := getD_in (by rw [inv.head.size]; omega) (by simpa using hiu)
      refine ⟨fun h0 => ?_, fun j hj => ?_⟩
      · -- something is ready: the least that has not come up
        exfalso
        have hleast : ∀ m i, i < m → i < n → listed.getD i true = false → ∃ j, j ∈ Region.ready .any ops listed := by
          intro m
          induction m with
          | zero => intro i h; omega
          | succ m ihm =>
            intro i _ hin hun
            by_cases hex : ∃ k, k < i ∧ listed.getD k true = false
            · obtain ⟨k, hk, hku⟩ := hex
              exact ihm k (by omega) (by omega) hku
            · have h1 := List.all_eq_true.1 hdown i (List.mem_range.2 hin)
              obtain ⟨o, ho, _⟩ := info i hin
              rw [ho] at h1
              refine ⟨i, mem_ready.2 ⟨hun, o, ho, fun e he hb => ?_⟩⟩
              have h2 := Array.all_eq_true'.1 h1 e he
              simp only [Bool.or_eq_true, Bool.not_eq_true', decide_eq_true_eq] at h2
              have h3 : e.on < i := h2.resolve_left (by rw [hb]; simp)
              have h4 : ¬ listed.getD e.on true = false := fun q => hex ⟨e.on, h3, q⟩
              have hz : e.on < listed.size := by rw [inv.head.size]; omega
              simp [hz] at h4 ⊢
              exact h4
        obtain ⟨j, hj⟩ := hleast (i + 1) i (by omega) hin hiu'
        rw [h0] at hj
        cases hj
      · have hjn : j < n := by
          rcases Nat.lt_or_ge j n with h | h
          · exact h
          · exact absurd hj (tail_waits hs hc hn inv.head _ i rfl hin hiu' j h)
        obtain ⟨o, ho, i1, i2⟩ := info j hjn
        obtain ⟨hjun, oj, hoj, hafter⟩ := mem_ready.1 hj
        obtain rfl : oj = o := Option.some.inj (hoj.symm.trans ho)
        let vals : Nat → Value := fun k => match dstOf ops k with | some d => if listed.getD k false = true then a.tmps.getD d undef else d0 k | none => d0 k
        have hv : ∀ k, k < n → T k (vals k) := by
          intro k hk
          cases hdk : dstOf ops k with
          | none => simp only [vals, hdk]; exact hd k hk
          | some d =>
            simp only [vals, hdk]
            split
            · rename_i hl
              obtain ⟨v, h1, h2⟩ := inv.has k hk hl d hdk
              rw [getD_same1 h1]; exact h2
            · exact hd k hk
        have hL := hstep vals hv j hjn oj ho
        have hjs : j < listed.size := by rw [inv.head.size]; omega
        have hjl : listed.getD j false = false := by simp [hjs] at hjun ⊢; exact hjun
        have hL1 : LoosD P ops (C (listed.getD mk false)) (C ((listed.setIfInBounds j true).getD mk false)) (T j) oj (FillA ops vals n a0) := by
          by_cases e : j = mk
          · subst e
            rw [if_pos rfl] at hL
            rw [hjl, show (listed.setIfInBounds j true).getD j false = true by simp [hjs]]
            exact hL
          · rw [if_neg e] at hL
            rw [getD_set_ne false e]
            exact hL _
        have hL2 : LoosD P ops (C (listed.getD mk false)) (C ((listed.setIfInBounds j true).getD mk false)) (T j) oj a := by
          refine hL1.same (Region.noSelect_spec hsel j oj · · ho) fun d hdl => ?_
          by_cases hex : ∃ k, k < n ∧ dstOf ops k = some d
          · obtain ⟨k, hk, hdk⟩ := hex
            have hw := i2 d hdl k hk hdk
            obtain ⟨o2, ho2, e, he, hb, hon⟩ := Region.waitsFor_spec hw
            obtain rfl : o2 = oj := Option.some.inj (ho2.symm.trans ho)
            have hl : listed.getD k false = true := by rw [← hon]; exact hafter e he hb
            obtain ⟨ok, hok, k1, _⟩ := info k hk
            obtain ⟨hlt, hu⟩ := k1 d (by rw [← dst_of hok]; exact hdk)
            rw [fill_at ops vals a0 hlt hdk n hk hu]
            obtain ⟨v, h1, _⟩ := inv.has k hk hl d hdk
            simp only [vals, hdk, hl, if_true]
            rw [getD_same1 h1, h1]
          · rw [fill_off ops vals a0 n (fun k hk q => hex ⟨k, hk, q⟩)]
            exact inv.off d (fun k hk _ q => hex ⟨k, hk, q⟩)
        refine hL2.wpOp ho inv.cls fun v w' hT hC => ?_
        refine ih _ _ _ ?_ ?_
        · have : ((listed.setIfInBounds j true).toList.filter (·)).length = (listed.toList.filter (·)).length + 1 := by
            rw [Array.toList_setIfInBounds]
            refine filter_set _ _ ?_
            simp [hjs] at hjun
            simp [hjs, hjun]
          omega
        · have hset : ∀ k, (listed.setIfInBounds j true).getD k false = true → k = j ∨ listed.getD k false = true := fun k hk => by
            by_cases e : j = k
            · exact Or.inl e.symm
            · rw [getD_set_ne false e] at hk; exact Or.inr hk
          refine ⟨inv.head.set hj hjn, hC, by rw [put_size]; exact inv.size, by rw [put_defs]; exact inv.defs, fun k hk hl d hdk => ?_, fun d hno => ?_⟩
          · by_cases e : k = j
            · subst e
              rw [dst_of ho] at hdk
              rw [hdk]
              exact ⟨v, put_at _ _ (by rw [inv.size]; exact (i1 d hdk).1), hT⟩
            · have hl' := (hset k hl).resolve_left e
              obtain ⟨u, h1, h2⟩ := inv.has k hk hl' d hdk
              refine ⟨u, ?_, h2⟩
              rw [put_off _ _ (fun q => e ((i1 d q).2 k hk hdk)), h1]
          · rw [put_off _ _ (fun q => hno j hjn (by simp [hjs]) (by rw [dst_of ho]; exact q))]
            exact inv.off d (fun k hk hl => hno k hk (getD_set_true hl))
theorem wp_region_loose1 {P : Program} {id : Nat} {Q : Exit → Act → World → Prop} {a : Act} {w : World} {l : List Oper} (n : Nat) (T : Nat → Value → Prop) (d0 : Nat → Value) (C : Bool → World → Prop) (mk : Nat) (hmk : mk < n) (hm : P.follows .mixedOrders = true) (hlen : n < l.length) (hB : looseB l.toArray n a.tmps.size = true) (hd : ∀ k, k < n → T k (d0 k)) (hC : C false w.drew)
    (hstep : ∀ vals : Nat → Value, (∀ k, k < n → T k (vals k)) → ∀ k, k < n → ∀ o, l.toArray[k]? = some o → if k = mk then LoosD P l.toArray (C false) (C true) (T k) o (FillA l.toArray vals n a) else ∀ b, LoosD P l.toArray (C b) (C b) (T k) o (FillA l.toArray vals n a))
    (hend : ∀ vals : Nat → Value, (∀ k, k < n → T k (vals k)) → ∀ w, C true w → wpList P l.toArray Q (l.drop n) (FillA l.toArray vals n a) w) : (Code.region id l.toArray true).wp P Q a w := by
  refine wp_region_any hm ?_
  have inv0 : HeadInv .any l.toArray n (Array.replicate l.toArray.size false) :=
    ⟨by simp, fun j oj _ hl => (by rw [getD_replicate_false] at hl; cases hl), fun t _ ht => getD_in (by simpa using ht) (getD_replicate_false _ _)⟩
  refine loose_any1 (mk := mk) hmk (tl := l.drop n) (by simpa using hlen) (fun j => by simp [List.getElem?_drop]) hB hd hstep hend _ _ _ _ (by simp) ⟨inv0, by rw [getD_replicate_false]; exact hC, rfl, rfl, fun k _ hl => (by rw [getD_replicate_false] at hl; cases hl), fun _ _ => rfl⟩
theorem LoosO.d {P : Program} {ops : Array Oper} {C : World → Prop} {T : Value → Prop} {o : Oper} {a : Act} (h : LoosO P ops C T o a) : LoosD P ops C C T o a := by
  rcases h with ⟨h1, h2⟩ | ⟨h1, h2⟩
  · refine Or.inl ⟨h1, fun w hw => ?_⟩
    have := h2 w hw
    generalize (execOp a.eval o).run P w = r at *
    cases r with
    | ok n w' => cases n <;> exact this
    | halt x w' => exact this
  · exact Or.inr ⟨h1, h2, fun _ h => h⟩
/-- The step of one operation: of the one that makes memory, or of another one. -/
def St1 (P : Program) (ops : Array Oper) (C : Bool → World → Prop) (m : Bool) (T : Value → Prop) (o : Oper) (a : Act) : Prop :=
  match m with
  | true => LoosD P ops (C false) (C true) T o a
  | false => ∀ b, LoosO P ops (C b) T o a
def Steps1 (P : Program) (ops : Array Oper) (C : Bool → World → Prop) (mk : Nat) (a : Act) : Nat → List Oper → List Sp → Prop
  | k, o :: os, s :: ss => St1 P ops C (Nat.beq k mk) s.T o a ∧ Steps1 P ops C mk a (k + 1) os ss
  | _, _, _ => True
theorem Steps1.at {P : Program} {ops : Array Oper} {C : Bool → World → Prop} {mk : Nat} {a : Act} : ∀ {l : List Oper} {L : List Sp} {i : Nat}, Steps1 P ops C mk a i l L → ∀ k, k < l.length → k < L.length → ∀ o, l[k]? = some o → St1 P ops C (Nat.beq (i + k) mk) (spOf L k).T o a
  | [], _, _, _, k, h, _, _, _ => by simp at h
  | _ :: _, [], _, _, k, _, h, _, _ => by simp at h
  | o :: l, s :: L, i, h, 0, _, _, o', e => by
    simp only [List.getElem?_cons_zero, Option.some.injEq] at e
    subst e
    exact h.1
  | o :: l, s :: L, i, h, k + 1, h1, h2, o', e => by
    have := Steps1.at h.2 k (by simpa using h1) (by simpa using h2) o' (by simpa using e)
    rw [show i + 1 + k = i + (k + 1) by omega] at this
    simpa [spOf] using this
theorem wp_region_sp1 {P : Program} {id : Nat} {Q : Exit → Act → World → Prop} {a : Act} {w : World} {l : List Oper} (n : Nat) (mk : Nat) (L : List Sp) (C : Bool → World → Prop) (hmk : mk < n) (hm : P.follows .mixedOrders = true) (hlen : n < l.length) (hL : L.length = n) (hB : looseB l.toArray n a.tmps.size = true) (hg : GoodL L) (hC : C false w.drew)
    (h : ∀ rs : Nat → Nat, Fls rs L 0 → Steps1 P l.toArray C mk (FillL (l.take n) (valsL rs L 0) a) 0 (l.take n) L ∧ ∀ w, C true w → wpList P l.toArray Q (l.drop n) (FillL (l.take n) (valsL rs L 0) a) w) : (Code.region id l.toArray true).wp P Q a w := by
  subst hL
  have hlt := fun rs k => vals_len rs L k
  have key : ∀ vals : Nat → Value, (∀ k, k < L.length → (spOf L k).T (vals k)) → ∃ rs, Fls rs L 0 ∧ FillL (l.take L.length) (valsL rs L 0) a = FillA l.toArray vals L.length a := by
    intro vals hv
    obtain ⟨rs, h1, h2⟩ := vals_are vals L 0 (fun j hj => by simpa using hv j hj)
    refine ⟨rs, h1, ?_⟩
    have htl : (l.take L.length).length = L.length := by simp; omega
    have := fill_list l.toArray vals a (l.take L.length) (valsL rs L 0) 0 (fun j hj => by rw [htl] at hj; simp [hj]) (by rw [hlt, htl]) (fun j hj => by rw [htl] at hj; simpa using h2 j hj)
    rw [htl, Nat.zero_add] at this
    simpa [FillA] using this
  have hd0 : ∃ d0 : Nat → Value, ∀ k, k < L.length → (spOf L k).T (d0 k) := by
    refine ⟨fun k => if hk : k < L.length then Classical.choose (hg.has k hk) else undef, fun k hk => ?_⟩
    simp only [hk, dif_pos]
    exact Classical.choose_spec (hg.has k hk)
  obtain ⟨d0, hd0⟩ := hd0
  refine wp_region_loose1 L.length (fun k => (spOf L k).T) d0 C mk hmk hm hlen hB hd0 hC (fun vals hv k hk o ho => ?_) (fun vals hv w' hw' => ?_)
  · obtain ⟨rs, h1, h2⟩ := key vals hv
    rw [← h2]
    have := (h rs h1).1.at k (by simp; omega) hk o (by simpa [hk] using ho)
    rw [Nat.zero_add] at this
    by_cases e : k = mk
    · rw [if_pos e]
      rw [show Nat.beq k mk = true by rw [e]; exact Nat.beq_refl mk] at this
      exact this
    · rw [if_neg e]
      rw [show Nat.beq k mk = false by rw [← Bool.not_eq_true]; exact fun q => e (Nat.eq_of_beq_eq_true q)] at this
      exact fun b => (this b).d
  · obtain ⟨rs, h1, h2⟩ := key vals hv
    rw [← h2]
    exact (h rs h1).2 w' hw'
/-- Nothing has turned of what was there; a new block, once it is made. -/
def MkC (W : World) (z : Obj) (b : Bool) (w : World) : Prop := RowKit.Below W.heap.size W w ∧ match b with
  | false => w.heap.size = W.heap.size
  | true => w.heap[W.heap.size]? = some z
end Go.Proofs.Ytcgbmcnefolgcaa

/- Drawn regions in which floats and states are reckoned and one block is made. -/
import Derived.Test.YtcgbmcnefolgcaaLr
import Derived.Test.YtcgbmcnefolgcaaCa
namespace Go.Proofs.Ytcgbmcnefolgcaa
open Go Go.Fl Go.RowKit

/-- What an operation leaves: a value that is told by five words. -/
structure Sq where
  enc : Stt → Value
  R : Stt → Prop
def Sq.T (s : Sq) (v : Value) : Prop := ∃ y, v = s.enc y ∧ s.R y
abbrev Sq.val (v : Value) : Sq := ⟨fun _ => v, fun _ => True⟩
abbrev Sq.fl (o : Option Nat) : Sq := ⟨fun y => .float .f64 y.x, fun y => ab y.x = o⟩
abbrev Sq.st (s : S5) : Sq := ⟨fun y => y.val, fun y => y.ab = s⟩
def sqOf (L : List Sq) (k : Nat) : Sq := L.getD k (Sq.val undef)
def valsQ (rs : Nat → Stt) : List Sq → Nat → List Value
  | [], _ => []
  | s :: L, k => s.enc (rs k) :: valsQ rs L (k + 1)
def FlsQ (rs : Nat → Stt) : List Sq → Nat → Prop
  | [], _ => True
  | s :: L, k => Hid (s.R (rs k)) ∧ FlsQ rs L (k + 1)
def GoodQ : List Sq → Prop
  | [] => True
  | s :: L => (∃ y, s.R y) ∧ GoodQ L
theorem good_val (v : Value) : ∃ y, (Sq.val v).R y := ⟨Stt.zero, trivial⟩
theorem good_fl {o : Option Nat} (h : Good o) : ∃ y, (Sq.fl o).R y := let ⟨r, hr⟩ := h.has; ⟨⟨r, 0, 0, 0, 0⟩, hr⟩
theorem good_st {x v a b c : Option Nat} (h1 : Good x) (h2 : Good v) (h3 : Good a) (h4 : Good b) (h5 : Good c) : ∃ y, (Sq.st ⟨x, v, a, b, c⟩).R y := by
  obtain ⟨r1, e1⟩ := h1.has
  obtain ⟨r2, e2⟩ := h2.has
  obtain ⟨r3, e3⟩ := h3.has
  obtain ⟨r4, e4⟩ := h4.has
  obtain ⟨r5, e5⟩ := h5.has
  exact ⟨⟨r1, r2, r3, r4, r5⟩, by show Stt.ab _ = _; unfold Stt.ab; rw [e1, e2, e3, e4, e5]⟩
theorem GoodQ.has : ∀ {L : List Sq}, GoodQ L → ∀ k, k < L.length → ∃ v, (sqOf L k).T v
  | [], _, k, h => by simp at h
  | s :: L, h, 0, _ => let ⟨y, hy⟩ := h.1; ⟨s.enc y, y, rfl, hy⟩
  | s :: L, h, k + 1, hk => by
    have := GoodQ.has (L := L) h.2 k (by simpa using hk)
    simpa [sqOf] using this
theorem flsQ_of {rs : Nat → Stt} : ∀ {L : List Sq} {k : Nat}, (∀ j, j < L.length → (sqOf L j).R (rs (k + j))) → FlsQ rs L k
  | [], _, _ => trivial
  | s :: L, k, h => ⟨h 0 (by simp), flsQ_of (fun j hj => by
      have := h (j + 1) (by simpa using hj)
      rw [show k + (j + 1) = k + 1 + j by omega] at this
      simpa [sqOf] using this)⟩
theorem valsQ_at {rs : Nat → Stt} : ∀ {L : List Sq} {k j : Nat}, j < L.length → (valsQ rs L k)[j]? = some ((sqOf L j).enc (rs (k + j)))
  | [], _, _, h => by simp at h
  | s :: L, k, 0, _ => by simp [valsQ, sqOf]
  | s :: L, k, j + 1, h => by
    have := valsQ_at (rs := rs) (L := L) (k := k + 1) (j := j) (by simpa using h)
    rw [show k + (j + 1) = k + 1 + j by omega]
    simpa [valsQ, sqOf] using this
theorem valsQ_len {rs : Nat → Stt} : ∀ {L : List Sq} {k : Nat}, (valsQ rs L k).length = L.length
  | [], _ => rfl
  | s :: L, k => by simp [valsQ, valsQ_len (rs := rs) (L := L) (k := k + 1)]
def StepsQ (P : Program) (ops : Array Oper) (C : Bool → World → Prop) (mk : Nat) (a : Act) : Nat → List Oper → List Sq → Prop
  | k, o :: os, s :: ss => St1 P ops C (Nat.beq k mk) s.T o a ∧ StepsQ P ops C mk a (k + 1) os ss
  | _, _, _ => True
theorem StepsQ.at {P : Program} {ops : Array Oper} {C : Bool → World → Prop} {mk : Nat} {a : Act} : ∀ {l : List Oper} {L : List Sq} {i : Nat}, StepsQ P ops C mk a i l L → ∀ k, k < l.length → k < L.length → ∀ o, l[k]? = some o → St1 P ops C (Nat.beq (i + k) mk) (sqOf L k).T o a
  | [], _, _, _, k, h, _, _, _ => by simp at h
  | _ :: _, [], _, _, k, _, h, _, _ => by simp at h
  | o :: l, s :: L, i, h, 0, _, _, o', e => by
    simp only [List.getElem?_cons_zero, Option.some.injEq] at e
    subst e
    exact h.1
  | o :: l, s :: L, i, h, k + 1, h1, h2, o', e => by
    have := StepsQ.at h.2 k (by simpa using h1) (by simpa using h2) o' (by simpa using e)
    rw [show i + 1 + k = i + (k + 1) by omega] at this
    simpa [sqOf] using this
theorem wp_region_sq1 {P : Program} {id : Nat} {Q : Exit → Act → World → Prop} {a : Act} {w : World} {l : List Oper} (n : Nat) (mk : Nat) (L : List Sq) (C : Bool → World → Prop) (hmk : mk < n) (hm : P.follows .mixedOrders = true) (hlen : n < l.length) (hL : L.length = n) (hB : looseB l.toArray n a.tmps.size = true) (hg : GoodQ L) (hC : C false w.drew)
    (h : ∀ rs : Nat → Stt, FlsQ rs L 0 → StepsQ P l.toArray C mk (FillL (l.take n) (valsQ rs L 0) a) 0 (l.take n) L ∧ ∀ w, C true w → wpList P l.toArray Q (l.drop n) (FillL (l.take n) (valsQ rs L 0) a) w) : (Code.region id l.toArray true).wp P Q a w := by
  subst hL
  have key : ∀ vals : Nat → Value, (∀ k, k < L.length → (sqOf L k).T (vals k)) → ∃ rs, FlsQ rs L 0 ∧ FillL (l.take L.length) (valsQ rs L 0) a = FillA l.toArray vals L.length a := by
    intro vals hv
    have hx : ∀ k, ∃ y, k < L.length → vals k = (sqOf L k).enc y ∧ (sqOf L k).R y := fun k => by
      by_cases hk : k < L.length
      · obtain ⟨y, hy⟩ := hv k hk
        exact ⟨y, fun _ => hy⟩
      · exact ⟨Stt.zero, fun q => absurd q hk⟩
    refine ⟨fun k => Classical.choose (hx k), flsQ_of fun j hj => ?_, ?_⟩
    · rw [Nat.zero_add]
      exact (Classical.choose_spec (hx j) hj).2
    have htl : (l.take L.length).length = L.length := by simp; omega
    have := fill_list l.toArray vals a (l.take L.length) (valsQ (fun k => Classical.choose (hx k)) L 0) 0 (fun j hj => by rw [htl] at hj; simp [hj]) (by rw [valsQ_len, htl]) (fun j hj => by
      rw [htl] at hj
      rw [valsQ_at hj, Nat.zero_add]
      exact congrArg some (Classical.choose_spec (hx j) hj).1.symm)
    rw [htl, Nat.zero_add] at this
    simpa [FillA] using this
  have hd0 : ∃ d0 : Nat → Value, ∀ k, k < L.length → (sqOf L k).T (d0 k) := by
    refine ⟨fun k => if hk : k < L.length then Classical.choose (hg.has k hk) else undef, fun k hk => ?_⟩
    simp only [hk, dif_pos]
    exact Classical.choose_spec (hg.has k hk)
  obtain ⟨d0, hd0⟩ := hd0
  refine wp_region_loose1 L.length (fun k => (sqOf L k).T) d0 C mk hmk hm hlen hB hd0 hC (fun vals hv k hk o ho => ?_) (fun vals hv w' hw' => ?_)
  · obtain ⟨rs, h1, h2⟩ := key vals hv
    rw [← h2]
    have := (h rs h1).1.at k (by simp; omega) hk o (by simpa [hk] using ho)
    rw [Nat.zero_add] at this
    by_cases e : k = mk
    · rw [if_pos e]
      rw [show Nat.beq k mk = true by rw [e]; exact Nat.beq_refl mk] at this
      exact this
    · rw [if_neg e]
      rw [show Nat.beq k mk = false by rw [← Bool.not_eq_true]; exact fun q => e (Nat.eq_of_beq_eq_true q)] at this
      exact fun b => (this b).d
  · obtain ⟨rs, h1, h2⟩ := key vals hv
    rw [← h2]
    exact (h rs h1).2 w' hw'
/-- What is fixed. -/
theorem SqO.is {P : Program} {ops : Array Oper} {C : World → Prop} {o : Oper} {v : Value} {a : Act} (hg : o.guard = none) (h : ∀ w, C w → (execOp a.eval o).run P w = .ok (.value v) w) : LoosO P ops C (Sq.val v).T o a :=
  Or.inl ⟨by simp [Region.wanted, hg], fun w hC => by rw [h w hC]; exact ⟨⟨Stt.zero, rfl, trivial⟩, hC⟩⟩
theorem SqO.mv {P : Program} {ops : Array Oper} {C : World → Prop} {o : Oper} {r : Nat} {X : Option Nat} {a : Act} (hg : o.guard = none) (h : ∀ w, C w → (execOp a.eval o).run P w = .ok (.value (.float .f64 r)) w) (hr : ab r = X) : LoosO P ops C (Sq.fl X).T o a :=
  Or.inl ⟨by simp [Region.wanted, hg], fun w hC => by rw [h w hC]; exact ⟨⟨⟨r, 0, 0, 0, 0⟩, rfl, hr⟩, hC⟩⟩
theorem SqO.bd {P : Program} {ops : Array Oper} {C : World → Prop} {o : Oper} {s : Stt} {X : S5} {a : Act} (hg : o.guard = none) (h : ∀ w, C w → (execOp a.eval o).run P w = .ok (.value s.val) w) (hr : s.ab = X) : LoosO P ops C (Sq.st X).T o a :=
  Or.inl ⟨by simp [Region.wanted, hg], fun w hC => by rw [h w hC]; exact ⟨⟨s, rfl, hr⟩, hC⟩⟩
theorem SqO.of {P : Program} {ops : Array Oper} {C : World → Prop} {o : Oper} {X : Option Nat} {a : Act} (h : LoosO P ops C (Sp.fl X).T o a) : LoosO P ops C (Sq.fl X).T o a := by
  have conv : ∀ v, (Sp.fl X).T v → (Sq.fl X).T v := fun v ⟨r, e, hr⟩ => ⟨⟨r, 0, 0, 0, 0⟩, e, hr⟩
  rcases h with ⟨h1, h2⟩ | ⟨h1, h2⟩
  · refine Or.inl ⟨h1, fun w hw => ?_⟩
    have := h2 w hw
    generalize (execOp a.eval o).run P w = r at *
    cases r with
    | ok n w' =>
      cases n <;> simp only [LoosS] at this ⊢
      case value v => exact ⟨conv v this.1, this.2⟩
      case enter f args => exact this.mono fun e w'' ⟨v, k1, k2, k3⟩ => ⟨v, k1, conv v k2, k3⟩
    | halt x w' => exact this
  · exact Or.inr ⟨h1, conv _ h2⟩
theorem ab5 {x v a b c : Nat} {X V A B C : Option Nat} (h1 : ab x = X) (h2 : ab v = V) (h3 : ab a = A) (h4 : ab b = B) (h5 : ab c = C) : Stt.ab ⟨x, v, a, b, c⟩ = ⟨X, V, A, B, C⟩ := by
  unfold Stt.ab; rw [h1, h2, h3, h4, h5]
theorem MkC.start (W : World) (z : Obj) : MkC W z false W.drew := ⟨Up.drew W, rfl⟩
theorem MkC.on (W : World) (z : Obj) (b : Bool) (w : World) (n : Nat) (h : MkC W z b w) : MkC W z b (w.drewN n) := ⟨(show Up W w from h.1).dr n, by cases b <;> exact h.2⟩
theorem MkC.mk {P : Program} {ops : Array Oper} {W : World} {z : Obj} {o : Oper} {a : Act} (hg : o.guard = none) (h : ∀ w, (execOp a.eval o).run P w = .ok (.value (.pointer (some ⟨w.heap.size, 0, none⟩))) (w.alloc z)) : LoosD P ops (MkC W z false) (MkC W z true) (Sq.val (.pointer (some ⟨W.heap.size, 0, none⟩))).T o a := by
  refine Or.inl ⟨by simp [Region.wanted, hg], fun w hC => ?_⟩
  rw [h w]
  have h2 : w.heap.size = W.heap.size := hC.2
  refine ⟨⟨Stt.zero, by rw [h2], trivial⟩, (show Up W w from hC.1).al z, ?_⟩
  show (w.alloc z).heap[W.heap.size]? = some z
  rw [← h2]
  exact heap_alloc_last w z
end Go.Proofs.Ytcgbmcnefolgcaa

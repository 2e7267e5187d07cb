/- Regions that draw their order: each operation leaves a fixed value, or some float that is this one (all NaN being one). No program. -/
import Derived.Test.YtcgbmcnefolgcaaLo
import Derived.Test.YtcgbmcnefolgcaaFl
namespace Go.Proofs.Ytcgbmcnefolgcaa
open Go Go.Fl Go.RowKit

/-- What an operation leaves. -/
abbrev Sp : Type := Sum Value (Option Nat)
abbrev Sp.val (v : Value) : Sp := Sum.inl v
abbrev Sp.fl (o : Option Nat) : Sp := Sum.inr o
def Sp.T : Sp → Value → Prop
  | .inl v, u => u = v
  | .inr o, u => ∃ r, u = .float .f64 r ∧ ab r = o
def spOf (L : List Sp) (k : Nat) : Sp := L.getD k (.inl undef)
/-- The values, the floats being told by their bits. -/
def valsL (rs : Nat → Nat) : List Sp → Nat → List Value
  | [], _ => []
  | .inl v :: L, k => v :: valsL rs L (k + 1)
  | .inr _ :: L, k => .float .f64 (rs k) :: valsL rs L (k + 1)
def Fls (rs : Nat → Nat) : List Sp → Nat → Prop
  | [], _ => True
  | .inl _ :: L, k => Fls rs L (k + 1)
  | .inr o :: L, k => Hid (ab (rs k) = o) ∧ Fls rs L (k + 1)
def FillL : List Oper → List Value → Act → Act
  | o :: os, v :: vs, a => FillL os vs (a.put o.dst v)
  | _, _, a => a
/-- A float that is: no NaN under another name. -/
def Good (o : Option Nat) : Prop := ∀ x, o = some x → isN x = false
theorem good_ab (x : Nat) : Good (ab x) := fun y h => by
  unfold ab at h
  split at h
  · cases h
  · rename_i hn
    cases h
    simpa using hn
theorem good_bin (op : BinOp) (o p : Option Nat) : Good (bin op o p) := fun x h => by
  cases o with
  | none => cases h
  | some a =>
    cases p with
    | none => simp [bin] at h
    | some b => exact bits_ok (op := op) (x := a) (y := b) h
theorem Good.has {o : Option Nat} (h : Good o) : ∃ r, ab r = o := by
  cases o with
  | none => exact ⟨9221120237041090561, by decide +kernel⟩
  | some x => exact ⟨x, ab_some (h x rfl)⟩
def GoodL : List Sp → Prop
  | [] => True
  | .inl _ :: L => GoodL L
  | .inr o :: L => Good o ∧ GoodL L
theorem GoodL.has : ∀ {L : List Sp}, GoodL L → ∀ k, k < L.length → ∃ v, (spOf L k).T v
  | [], _, k, h => by simp at h
  | .inl v :: L, _, 0, _ => ⟨v, rfl⟩
  | .inr o :: L, h, 0, _ => let ⟨r, hr⟩ := h.1.has; ⟨.float .f64 r, r, rfl, hr⟩
  | .inl v :: L, h, k + 1, hk => by
    have := GoodL.has (L := L) h k (by simpa using hk)
    simpa [spOf] using this
  | .inr o :: L, h, k + 1, hk => by
    have := GoodL.has (L := L) h.2 k (by simpa using hk)
    simpa [spOf] using this
/-- Values of these classes, as fixed ones and floats. -/
theorem vals_are (vals : Nat → Value) : ∀ (L : List Sp) (k : Nat), (∀ j, j < L.length → (spOf L j).T (vals (k + j))) → ∃ rs : Nat → Nat, Fls rs L k ∧ ∀ j, j < L.length → (valsL rs L k)[j]? = some (vals (k + j))
  | [], k, _ => ⟨fun _ => 0, trivial, fun j h => by simp at h⟩
  | .inl v :: L, k, h => by
    obtain ⟨rs, h1, h2⟩ := vals_are vals L (k + 1) (fun j hj => by
      have := h (j + 1) (by simpa using hj)
      simpa [spOf, Nat.add_assoc, Nat.add_comm 1 j] using this)
    refine ⟨rs, h1, fun j hj => ?_⟩
    cases j with
    | zero =>
      have h0 : vals k = v := h 0 (by simp)
      simp [valsL, h0]
    | succ j =>
      have := h2 j (by simpa using hj)
      simpa [valsL, Nat.add_assoc, Nat.add_comm 1 j] using this
  | .inr o :: L, k, h => by
    obtain ⟨rs, h1, h2⟩ := vals_are vals L (k + 1) (fun j hj => by
      have := h (j + 1) (by simpa using hj)
      simpa [spOf, Nat.add_assoc, Nat.add_comm 1 j] using this)
    obtain ⟨r, h3, h4⟩ : ∃ r, vals k = .float .f64 r ∧ ab r = o := h 0 (by simp)
    have hf : ∀ (L : List Sp) (m : Nat), k < m → Fls rs L m → Fls (fun i => if i = k then r else rs i) L m := by
      intro L
      induction L with
      | nil => intro m _ _; trivial
      | cons s L ih =>
        intro m hm hF
        cases s with
        | inl v => exact ih (m + 1) (by omega) hF
        | inr p => exact ⟨by simpa [show ¬ m = k by omega] using hF.1, ih (m + 1) (by omega) hF.2⟩
    have hv : ∀ (L : List Sp) (m : Nat), k < m → valsL (fun i => if i = k then r else rs i) L m = valsL rs L m := by
      intro L
      induction L with
      | nil => intro m _; rfl
      | cons s L ih =>
        intro m hm
        cases s with
        | inl v => simp only [valsL]; rw [ih (m + 1) (by omega)]
        | inr p => simp only [valsL]; rw [ih (m + 1) (by omega), if_neg (by omega)]
    refine ⟨fun i => if i = k then r else rs i, ⟨by show ab _ = o; simpa using h4, hf L (k + 1) (by omega) h1⟩, fun j hj => ?_⟩
    cases j with
    | zero => simp [valsL, h3]
    | succ j =>
      have := h2 j (by simpa using hj)
      simp only [valsL, List.getElem?_cons_succ]
      rw [hv L (k + 1) (by omega), this]
      simp [Nat.add_assoc, Nat.add_comm 1 j]
theorem fill_list (ops : Array Oper) (vals : Nat → Value) (a : Act) : ∀ (l : List Oper) (vs : List Value) (k : Nat), (∀ j, j < l.length → l[j]? = ops[k + j]?) → vs.length = l.length → (∀ j, j < l.length → vs[j]? = some (vals (k + j))) → FillL l vs (FillA ops vals k a) = FillA ops vals (k + l.length) a
  | [], vs, k, _, _, _ => by simp [FillL]
  | o :: l, [], k, _, h, _ => by simp at h
  | o :: l, v :: vs, k, h1, h2, h3 => by
    have h0 : ops[k]? = some o := by simpa using (h1 0 (by simp)).symm
    have hv : v = vals k := by simpa using h3 0 (by simp)
    have := fill_list ops vals a l vs (k + 1) (fun j hj => by have := h1 (j + 1) (by simpa using hj); simpa [Nat.add_assoc, Nat.add_comm 1 j] using this) (by simpa using h2) (fun j hj => by have := h3 (j + 1) (by simpa using hj); simpa [Nat.add_assoc, Nat.add_comm 1 j] using this)
    rw [FillL, hv]
    rw [FillA] at this
    simp only [dstOf, h0, Option.bind_some] at this
    rw [this]
    congr 1
    simp; omega
theorem vals_len (rs : Nat → Nat) : ∀ (L : List Sp) (k : Nat), (valsL rs L k).length = L.length
  | [], _ => rfl
  | .inl v :: L, k => by simp [valsL, vals_len rs L (k + 1)]
  | .inr o :: L, k => by simp [valsL, vals_len rs L (k + 1)]
def Steps (P : Program) (ops : Array Oper) (C : World → Prop) (a : Act) : List Oper → List Sp → Prop
  | o :: os, s :: ss => LoosO P ops C s.T o a ∧ Steps P ops C a os ss
  | _, _ => True
theorem Steps.at {P : Program} {ops : Array Oper} {C : World → Prop} {a : Act} : ∀ {l : List Oper} {L : List Sp}, Steps P ops C a l L → ∀ k, k < l.length → k < L.length → ∀ o, l[k]? = some o → LoosO P ops C (spOf L k).T o a
  | [], _, _, k, h, _, _, _ => by simp at h
  | _ :: _, [], _, k, _, h, _, _ => by simp at h
  | o :: l, s :: L, h, 0, _, _, o', e => by
    simp only [List.getElem?_cons_zero, Option.some.injEq] at e
    subst e
    exact h.1
  | o :: l, s :: L, h, k + 1, h1, h2, o', e => by
    have := Steps.at h.2 k (by simpa using h1) (by simpa using h2) o' (by simpa using e)
    simpa [spOf] using this
theorem wp_region_sp {P : Program} {id : Nat} {Q : Exit → Act → World → Prop} {a : Act} {w : World} {l : List Oper} (n : Nat) (L : List Sp) (C : World → Prop) (hm : P.follows .mixedOrders = true) (hlen : n < l.length) (hL : L.length = n) (hB : looseB l.toArray n a.tmps.size = true) (hg : GoodL L) (hC : C w.drew)
    (h : ∀ rs : Nat → Nat, Fls rs L 0 → Steps P l.toArray C (FillL (l.take n) (valsL rs L 0) a) (l.take n) L ∧ ∀ w, C w → wpList P l.toArray Q (l.drop n) (FillL (l.take n) (valsL rs L 0) a) w) : (Code.region id l.toArray true).wp P Q a w := by
  subst hL
  have hlt := fun rs k => vals_len rs L k
  have key : ∀ vals : Nat → Value, (∀ k, k < L.length → (spOf L k).T (vals k)) → ∃ rs, Fls rs L 0 ∧ FillL (l.take L.length) (valsL rs L 0) a = FillA l.toArray vals L.length a := by
    intro vals hv
    obtain ⟨rs, h1, h2⟩ := vals_are vals L 0 (fun j hj => by simpa using hv j hj)
    refine ⟨rs, h1, ?_⟩
    have htl : (l.take L.length).length = L.length := by simp; omega
    have := fill_list l.toArray vals a (l.take L.length) (valsL rs L 0) 0 (fun j hj => by rw [htl] at hj; simp [hj]) (by rw [hlt, htl]) (fun j hj => by rw [htl] at hj; simpa using h2 j hj)
    rw [htl, Nat.zero_add] at this
    simpa [FillA] using this
  have hd0 : ∃ d0 : Nat → Value, ∀ k, k < L.length → (spOf L k).T (d0 k) := by
    refine ⟨fun k => if hk : k < L.length then Classical.choose (hg.has k hk) else undef, fun k hk => ?_⟩
    simp only [hk, dif_pos]
    exact Classical.choose_spec (hg.has k hk)
  obtain ⟨d0, hd0⟩ := hd0
  refine wp_region_loose L.length (fun k => (spOf L k).T) d0 C hm hlen hB hd0 hC (fun vals hv k hk o ho => ?_) (fun vals hv w' hw' => ?_)
  · obtain ⟨rs, h1, h2⟩ := key vals hv
    rw [← h2]
    exact (h rs h1).1.at k (by simp; omega) hk o (by simpa [hk] using ho)
  · obtain ⟨rs, h1, h2⟩ := key vals hv
    rw [← h2]
    exact (h rs h1).2 w' hw'
theorem LoosO.is {P : Program} {ops : Array Oper} {C : World → Prop} {o : Oper} {v : Value} {a : Act} (hg : o.guard = none) (h : ∀ w, C w → (execOp a.eval o).run P w = .ok (.value v) w) : LoosO P ops C (Sp.val v).T o a :=
  Or.inl ⟨by simp [Region.wanted, hg], fun w hC => by rw [h w hC]; exact ⟨rfl, hC⟩⟩
/-- A float is moved on. -/
theorem LoosO.mv {P : Program} {ops : Array Oper} {C : World → Prop} {o : Oper} {r : Nat} {X : Option Nat} {a : Act} (hg : o.guard = none) (h : ∀ w, C w → (execOp a.eval o).run P w = .ok (.value (.float .f64 r)) w) (hr : ab r = X) : LoosO P ops C (Sp.fl X).T o a :=
  Or.inl ⟨by simp [Region.wanted, hg], fun w hC => by rw [h w hC]; exact ⟨⟨r, rfl, hr⟩, hC⟩⟩
/-- A step of floats. -/
theorem LoosO.st {P : Program} {ops : Array Oper} {C : World → Prop} {o : Oper} {op : BinOp} {t1 t2 : TypeId} {x y : Operand} {a : Act} {X Y : Option Nat} (hC : ∀ w n, C w → C (w.drewN n)) (hg : o.guard = none) (hop : o.op = .binOp op t1 x y t2) (h4 : op = .add ∨ op = .sub ∨ op = .mul ∨ op = .quo) (p q : Nat) (hx : a.eval x = .float .f64 p) (hy : a.eval y = .float .f64 q) (hp : ab p = X) (hq : ab q = Y) : LoosO P ops C (Sp.fl (bin op X Y)).T o a := by
  refine Or.inl ⟨by simp [Region.wanted, hg], fun w hw => ?_⟩
  obtain ⟨r, n, e, hr⟩ := run_fl (P := P) op t1 p q w h4
  have e2 : (execOp a.eval o).run P w = .ok (.value (.float .f64 r)) (w.drewN n) := by
    rcases h4 with rfl | rfl | rfl | rfl <;> simp [execOp, hop, hx, hy, eqGuard, e]
  rw [e2]
  exact ⟨⟨r, rfl, by rw [hr, hp, hq]⟩, hC w n hw⟩
/-- A call that hands back one float. -/
theorem LoosO.call {P : Program} {ops : Array Oper} {C : World → Prop} {o : Oper} {f : Nat} {args : Array Operand} {tys : Array TypeId} {a : Act} {X : Option Nat} (hC : ∀ w n, C w → C (w.drewN n)) (hg : o.guard = none) (hop : o.op = .call { callee := .value (.func f), args := args, argTypes := tys }) (vs : Array Value) (hvs : args.map a.eval = vs) (hen : ∀ w, (callFunc f vs).run P w = .ok (.enter f vs) w) (h : ∀ w, Calls P f vs w (FR w X)) : LoosO P ops C (Sp.fl X).T o a := by
  refine Or.inl ⟨by simp [Region.wanted, hg], fun w hw => ?_⟩
  have e2 : (execOp a.eval o).run P w = .ok (.enter f vs) w := by
    simp [execOp, hop, resolve, invoke, Act.eval, Deferred.ofValue, hvs, hen]
  rw [e2]
  refine (h w).mono ?_
  rintro e w' ⟨r, n, rfl, rfl, hr⟩
  exact ⟨_, rfl, ⟨r, rfl, hr.out⟩, hC w n hw⟩
/-- The world, but for draws. -/
def DrW (W : World) (w : World) : Prop := ∃ N, w = W.drewN N
theorem DrW.start (w : World) : DrW w w := ⟨0, rfl⟩
theorem DrW.on (W : World) (w : World) (n : Nat) (h : DrW W w) : DrW W (w.drewN n) := by
  obtain ⟨N, rfl⟩ := h
  exact ⟨N + n, by rw [World.drewN_drewN]⟩
end Go.Proofs.Ytcgbmcnefolgcaa

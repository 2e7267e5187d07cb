/- How the reference merges, without the program: what is not taken yet, in order. -/
import Derived.Test.YtijfmaepoamkgaaZb
import Derived.Test.YtijfmaepoamkgaaZc
import Derived.Test.YtijfmaepoamkgaaYc
namespace Go.Proofs.Ytijfmaepoamkgaa
open Go.Fl

/-- Those from the i-th on that are not taken. -/
def unt (H : Nat → Bool) (o : List Nat) (i : Nat) : List Nat := (o.drop i).filter fun k => !H k
theorem drop_at {o : List Nat} {i : Nat} (h : i < o.length) : o.drop i = o[i]! :: o.drop (i + 1) := by
  rw [getElem!_pos o i h]
  exact List.drop_eq_getElem_cons h
theorem unt_taken {H : Nat → Bool} {o : List Nat} {i : Nat} (h : i < o.length) (ht : H o[i]! = true) : unt H o i = unt H o (i + 1) := by
  unfold unt
  rw [drop_at h, List.filter_cons_of_neg (by rw [ht]; decide)]
theorem unt_free {H : Nat → Bool} {o : List Nat} {i : Nat} (h : i < o.length) (ht : H o[i]! = false) : unt H o i = o[i]! :: unt H o (i + 1) := by
  unfold unt
  rw [drop_at h, List.filter_cons_of_pos (by rw [ht]; rfl)]
theorem unt_end {H : Nat → Bool} {o : List Nat} : unt H o o.length = [] := by simp [unt]
theorem unt_start {o : List Nat} : unt (fun _ => false) o 0 = o := by simp [unt]
/-- What is near a, is taken: the others are left. -/
theorem unt_less {H H' : Nat → Bool} {o : List Nat} {i : Nat} {N : Nat → Bool} (h : ∀ k, k ∈ o.drop i → H' k = (H k || N k)) : unt H' o i = (unt H o i).filter fun k => !N k := by
  unfold unt
  rw [List.filter_filter]
  refine List.filter_congr fun k hk => ?_
  rw [h k hk]
  cases H k <;> cases N k <;> rfl
/-- What is taken with a: those up to the k-th that are near and free. -/
def grp (H N : Nat → Bool) (o : List Nat) (i k : Nat) : List Nat := ((o.take k).drop i).filter fun x => !H x && N x
theorem grp_start {H N : Nat → Bool} {o : List Nat} {i : Nat} : grp H N o i i = [] := by
  unfold grp
  rw [List.drop_eq_nil_of_le (by simp; omega)]
  rfl
theorem grp_next {H N : Nat → Bool} {o : List Nat} {i k : Nat} (hik : i ≤ k) (hk : k < o.length) : grp H N o i (k + 1) = grp H N o i k ++ (if !H o[k]! && N o[k]! then [o[k]!] else []) := by
  unfold grp
  have e : o.take (k + 1) = o.take k ++ [o[k]!] := take_next hk rfl
  rw [e, List.drop_append_of_le_length (by rw [List.length_take]; omega), List.filter_append]
  congr 1
  cases hb : (!H o[k]! && N o[k]!)
  · rw [List.filter_cons_of_neg (by rw [hb]; decide)]; rfl
  · rw [List.filter_cons_of_pos (by exact hb)]; rfl
theorem grp_end {H N : Nat → Bool} {o : List Nat} {i : Nat} : grp H N o i o.length = (unt H o i).filter N := by
  unfold grp unt
  rw [List.take_length, List.filter_filter]
  refine List.filter_congr fun x _ => ?_
  cases H x <;> cases N x <;> rfl
/-- Powers added by the reference's Floats are powers added from the left. -/
theorem sum_add (P : Nat → Plt) (a : Nat) : ∀ (l : List Nat), sumN (fun j => ab (P ((a :: l)[j]!)).p) (l.length + 1) = addAll P (ab (P a).p) l := by
  intro l
  have key : ∀ (n : Nat), n ≤ l.length → sumN (fun j => ab (P ((a :: l)[j]!)).p) (n + 1) = addAll P (ab (P a).p) (l.take n) := by
    intro n
    induction n with
    | zero => intro _; rfl
    | succ n ih =>
      intro h
      rw [sumN_step, ih (by omega)]
      have e : l.take (n + 1) = l.take n ++ [l[n]!] := take_next (by omega) rfl
      rw [e]
      unfold addAll
      rw [List.foldl_append]
      have e2 : (a :: l)[n + 1]! = l[n]! := by
        rw [getElem!_pos _ (n + 1) (by simp; omega), getElem!_pos l n (by omega)]
        rfl
      rw [e2]
      rfl
  have := key l.length (Nat.le_refl _)
  rwa [List.take_length] at this
/-- One more that is told. -/
theorem mg_step {P : Nat → Plt} {m s : Nat} {H H' : Nat → Bool} {o : List Nat} {i : Nat} {T : List (Nat × Option Nat)} (hi : i < o.length) (hf : H o[i]! = false) (hT : mg P m s o = T ++ mg P m s (unt H o i)) (hH : ∀ k, k ∈ o.drop (i + 1) → H' k = (H k || nearB m s (P k) (P o[i]!))) : mg P m s o = (T ++ [(o[i]!, addAll P (ab (P o[i]!).p) ((unt H o (i + 1)).filter fun k => nearB m s (P k) (P o[i]!)))]) ++ mg P m s (unt H' o (i + 1)) := by
  rw [hT, unt_free hi hf, mg_cons, unt_less hH]
  simp
end Go.Proofs.Ytijfmaepoamkgaa
/- The document's Merge at work: what it keeps in memory. -/
namespace Go.Proofs.Ytijfmaepoamkgaa
open Go.ChangeShapes Go.WideShapes Go.ChangeAt Go.RowKit Go.Fl Go.Sort

def be (b : Bool) : Value := .bool b
def fq (x : Nat) : Value := .float .f64 x
/-- The order, who is taken, what is told. -/
structure RM (w wr : World) (g n : Nat) (o : List Nat) (po : Option Addr) (co : Nat) (vs : Value) (D : List Plt) (H : List Bool) : Prop where
  up : Up w wr
  big : w.heap.size ≤ g
  ord : OPl 0 wr (.slice po n co) o
  olt : ∀ k, (Value.slice po n co).ownBlock = some k → k < g
  had : OR be 4 0 wr (.slice (some ⟨g, 0, none⟩) n n) H
  out : PO (g + 1) wr vs D
theorem RM.upon {w wr w2 : World} {g n : Nat} {o : List Nat} {po : Option Addr} {co : Nat} {vs : Value} {D : List Plt} {H : List Bool} (h : RM w wr g n o po co vs D H) (hu : Up wr w2) : RM w w2 g n o po co vs D H := ⟨h.up.trans hu, h.big, owns_up h.ord hu, h.olt, owns_up h.had hu, h.out.up hu⟩
theorem RM.put {w wr : World} {g n : Nat} {o : List Nat} {po : Option Addr} {co : Nat} {vs : Value} {D : List Plt} {H : List Bool} (h : RM w wr g n o po co vs D H) (k : Nat) : RM w (wr.setCell ⟨g, k, none⟩ (.bool true)) g n o po co vs D (H.set k true) ∧ But g wr (wr.setCell ⟨g, k, none⟩ (.bool true)) := by
  obtain ⟨s1, s2⟩ := OR.put h.had k true
  refine ⟨⟨s2.up h.up h.big, h.big, OR.far h.ord s2 (fun e => ?_), h.olt, s1, owns_grown h.out s2 (fun x hx e => ?_)⟩, s2⟩
  · have := h.olt _ e; omega
  · cases hx
    have := (h.out.lt _ e).1
    omega
/-- The powers of those that are taken with one plot. -/
theorem RM.more {w wr wa w2 : World} {g n : Nat} {o : List Nat} {po : Option Addr} {co : Nat} {vs vp : Value} {D : List Plt} {H : List Bool} {L : List Nat} (h : RM w wr g n o po co vs D H) (hp : OR fq 22 (g + 1) wr vp L) (ha : Up wr wa) (hg : wa.grownBy w2 vp.ownBlock) : RM w w2 g n o po co vs D H := by
  refine ⟨grown_up (h.up.trans ha) hg (fun j hj => ?_), h.big, owns_grown (owns_up h.ord ha) hg (fun x hx e => ?_), h.olt, owns_grown (owns_up h.had ha) hg (fun x hx e => ?_), owns_grown (h.out.up ha) hg (fun x hx => ?_)⟩
  · have := (hp.lt _ hj).1
    have := h.big
    omega
  · have := (hp.lt _ hx).1
    have := h.olt _ e
    omega
  · have := (hp.lt _ hx).1
    simp only [Value.ownBlock, Option.some.injEq] at e
    omega
  · exact kinds_apart (owns_up hp ha) (h.out.up ha) (by decide) hx
theorem RM.app {w wr wa w2 : World} {g n : Nat} {o : List Nat} {po : Option Addr} {co : Nat} {vs v' : Value} {D : List Plt} {H : List Bool} {q : Plt} (h : RM w wr g n o po co vs D H) (ha : Up wr wa) (hown : w2.ownsRow (g + 1) 28 5 v' (D.length + 1) (fl5 D ++ pL q)) (hg : wa.grownBy w2 vs.ownBlock) : RM w w2 g n o po co v' (D ++ [q]) H := by
  refine ⟨grown_up (h.up.trans ha) hg (fun j hj => ?_), h.big, owns_grown (owns_up h.ord ha) hg (fun x hx e => ?_), h.olt, owns_grown (owns_up h.had ha) hg (fun x hx e => ?_), PO.app hown⟩
  · have := (h.out.lt _ hj).1
    have := h.big
    omega
  · have := (h.out.lt _ hx).1
    have := h.olt _ e
    omega
  · have := (h.out.lt _ hx).1
    simp only [Value.ownBlock, Option.some.injEq] at e
    omega
/-- The one plot more is told with its power. -/
theorem Tld.snoc {P : Nat → Plt} {T : List (Nat × Option Nat)} {D : List Plt} (h : Tld P T D) {k x : Nat} {v : Option Nat} (hx : ab x = v) : Tld P (T ++ [(k, v)]) (D ++ [(P k).pow x]) := by
  have hl := h.len
  refine ⟨by simp [hl], fun i hi => ?_⟩
  by_cases e : i < D.length
  · rw [getD_l e, getElem!_pos _ i (by simp; omega), List.getElem_append_left (by omega)]
    have := h.all i (by omega)
    rwa [getElem!_pos T i (by omega)] at this
  · have e2 : i = D.length := by simp at hi; omega
    subst e2
    rw [getD_r, getElem!_pos _ _ (by simp; omega), List.getElem_append_right (by omega)]
    simp only [hl, Nat.sub_self, List.getElem_cons_zero]
    exact ⟨rfl, rfl, hx, rfl, rfl⟩
end Go.Proofs.Ytijfmaepoamkgaa
/- Who is taken with one plot, step by step. No program. -/
namespace Go.Proofs.Ytijfmaepoamkgaa
open Go.Fl

def nn (P : Nat → Plt) (m s k0 x : Nat) : Bool := decide (x = k0) || nearB m s (P x) (P k0)
structure GI (P : Nat → Plt) (m s : Nat) (o : List Nat) (i : Nat) (H H' : List Bool) (L : List Nat) (k n : Nat) : Prop where
  len : H'.length = n
  spec : ∀ x, x < n → H'[x]! = (H[x]! || (nn P m s o[i]! x && decide (x ∈ (o.take k).drop i)))
  pw : L = (grp (fun x => H[x]!) (nn P m s o[i]!) o i k).map fun x => (P x).p
theorem GI.start {P : Nat → Plt} {m s : Nat} {o : List Nat} {i : Nat} {H : List Bool} {n : Nat} (hl : H.length = n) : GI P m s o i H H [] i n := by
  refine ⟨hl, fun x _ => ?_, by rw [grp_start]; rfl⟩
  have : (o.take i).drop i = [] := List.drop_eq_nil_of_le (by simp; omega)
  rw [this]
  simp
theorem take_drop_next {o : List Nat} {i k : Nat} (hik : i ≤ k) (hk : k < o.length) : (o.take (k + 1)).drop i = (o.take k).drop i ++ [o[k]!] := by
  have e : o.take (k + 1) = o.take k ++ [o[k]!] := take_next hk rfl
  rw [e, List.drop_append_of_le_length (by rw [List.length_take]; omega)]
theorem not_before {o : List Nat} {i k : Nat} (hnd : o.Nodup) (hk : k < o.length) : o[k]! ∉ (o.take k).drop i := by
  intro h
  have h1 : o[k]! ∈ o.take k := List.mem_of_mem_drop h
  rw [getElem!_pos o k hk] at h1
  have e : o = o.take k ++ o.drop k := (List.take_append_drop k o).symm
  rw [e] at hnd
  have h2 : o[k] ∈ o.drop k := by
    rw [List.drop_eq_getElem_cons hk]
    exact List.mem_cons_self
  exact (List.nodup_append.1 hnd).2.2 _ h1 _ h2 rfl
theorem GI.at {P : Nat → Plt} {m s : Nat} {o : List Nat} {i : Nat} {H H' : List Bool} {L : List Nat} {k n : Nat} (h : GI P m s o i H H' L k n) (hnd : o.Nodup) (hk : k < o.length) (hn : o[k]! < n) : H'[o[k]!]! = H[o[k]!]! := by
  rw [h.spec _ hn, decide_eq_false (not_before hnd hk)]
  simp
theorem mem_snoc (l : List Nat) (x z : Nat) : decide (x ∈ l ++ [z]) = (decide (x ∈ l) || decide (x = z)) := by simp
theorem GI.skip {P : Nat → Plt} {m s : Nat} {o : List Nat} {i : Nat} {H H' : List Bool} {L : List Nat} {k n : Nat} (h : GI P m s o i H H' L k n) (hnd : o.Nodup) (hik : i ≤ k) (hk : k < o.length) (hn : o[k]! < n) (hs : (nn P m s o[i]! o[k]! && !H'[o[k]!]!) = false) : GI P m s o i H H' L (k + 1) n := by
  have ha := h.at hnd hk hn
  rw [ha] at hs
  refine ⟨h.len, fun x hx => ?_, ?_⟩
  · rw [h.spec x hx, take_drop_next hik hk, mem_snoc]
    by_cases e : x = o[k]!
    · subst e
      rw [decide_eq_false (not_before hnd hk)]
      revert hs
      generalize H[o[k]!]! = y
      generalize nn P m s o[i]! o[k]! = z
      cases y <;> cases z <;> simp
    · rw [decide_eq_false e, Bool.or_false]
  · rw [h.pw, grp_next hik hk]
    have : (!H[o[k]!]! && nn P m s o[i]! o[k]!) = false := by rw [Bool.and_comm]; exact hs
    rw [if_neg (by rw [this]; decide), List.append_nil]
theorem GI.take {P : Nat → Plt} {m s : Nat} {o : List Nat} {i : Nat} {H H' : List Bool} {L : List Nat} {k n : Nat} (h : GI P m s o i H H' L k n) (hnd : o.Nodup) (hik : i ≤ k) (hk : k < o.length) (hn : o[k]! < n) (h1 : nn P m s o[i]! o[k]! = true) (h2 : H'[o[k]!]! = false) : GI P m s o i H (H'.set o[k]! true) (L ++ [(P o[k]!).p]) (k + 1) n := by
  have ha := h.at hnd hk hn
  rw [h2] at ha
  refine ⟨by rw [List.length_set]; exact h.len, fun x hx => ?_, ?_⟩
  · rw [get_set' H' o[k]! true (by rw [h.len]; exact hx), take_drop_next hik hk, mem_snoc]
    by_cases e : x = o[k]!
    · subst e
      rw [if_pos rfl, h1, decide_eq_true rfl, Bool.or_true, Bool.and_true, Bool.or_true]
    · rw [if_neg e, h.spec x hx, decide_eq_false e, Bool.or_false]
  · rw [h.pw, grp_next hik hk]
    have : (!H[o[k]!]! && nn P m s o[i]! o[k]!) = true := by rw [← ha, h1]; rfl
    rw [if_pos this, List.map_append]
    rfl
theorem mem_unt {H : Nat → Bool} {o : List Nat} {i x : Nat} (h : x ∈ unt H o i) : x ∈ o.drop i := (List.mem_filter.1 h).1
theorem after_ne {o : List Nat} {i x : Nat} (hnd : o.Nodup) (hi : i < o.length) (h : x ∈ o.drop (i + 1)) : x ≠ o[i]! := by
  intro e
  subst e
  rw [getElem!_pos o i hi] at h
  have e : o = o.take (i + 1) ++ o.drop (i + 1) := (List.take_append_drop (i + 1) o).symm
  rw [e] at hnd
  have h2 : o[i] ∈ o.take (i + 1) := by
    have e3 : o.take (i + 1) = o.take i ++ [o[i]!] := take_next hi rfl
    rw [e3, getElem!_pos o i hi]
    exact List.mem_append_right _ List.mem_cons_self
  exact (List.nodup_append.1 hnd).2.2 _ h2 _ h rfl
/-- All that are taken with the i-th, and what is left. -/
theorem GI.done {P : Nat → Plt} {m s : Nat} {o : List Nat} {i : Nat} {H H' : List Bool} {L : List Nat} {n : Nat} (h : GI P m s o i H H' L n n) (hnd : o.Nodup) (hl : o.length = n) (hlt : ∀ x, x ∈ o → x < n) (hi : i < n) (hf : H[o[i]!]! = false) :
    L = (o[i]! :: (unt (fun x => H[x]!) o (i + 1)).filter fun k => nearB m s (P k) (P o[i]!)).map (fun x => (P x).p) ∧ ∀ k, k ∈ o.drop (i + 1) → H'[k]! = (H[k]! || nearB m s (P k) (P o[i]!)) := by
  have hi' : i < o.length := by omega
  constructor
  · rw [h.pw, ← hl, grp_end, unt_free hi' hf, List.filter_cons_of_pos (by unfold nn; simp)]
    congr 2
    refine List.filter_congr fun x hx => ?_
    unfold nn
    rw [decide_eq_false (after_ne hnd hi' (mem_unt hx)), Bool.false_or]
  · intro k hk
    have hm : k ∈ o.drop i := by
      rw [drop_at hi']
      exact List.mem_cons_of_mem _ hk
    rw [h.spec k (hlt k (List.mem_of_mem_drop hk)), ← hl, List.take_length, decide_eq_true hm, Bool.and_true]
    unfold nn
    rw [decide_eq_false (after_ne hnd hi' hk), Bool.false_or]
end Go.Proofs.Ytijfmaepoamkgaa

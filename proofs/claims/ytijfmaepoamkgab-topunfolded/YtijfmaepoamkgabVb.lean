/- What TopUnfolded calls; what its first loop keeps: beats, lists of cells, remainders and moduli, side by side. -/
import Derived.Test.YtijfmaepoamkgabVa
import Derived.Test.YtijfmaepoamkgabVm
namespace Go.Proofs.Ytijfmaepoamkgab
open Go.ChangeShapes Go.WideShapes Go.ChangeAt Go.RowKit Go.Fl Go.Sort
attribute [local go_sem] run_store_float call18 run_neg fold_eq fold_ne fold_lt fold_gt abs_eq

theorem mod_round {n m t : Int} (hm : 1 ≤ m) (ht : n.tmod m = t) : -m < t ∧ t < m ∧ (t + m).tmod m = n % m := by
  obtain ⟨h1, h2, h3, h4⟩ := Fo.tmod_facts n hm
  rw [ht] at h1 h2 h3 h4
  refine ⟨h4, h3, ?_⟩
  rw [Int.tmod_eq_emod_of_nonneg (by omega)]
  have e0 := Int.emod_nonneg n (show m ≠ 0 by omega)
  have e1 := Int.emod_lt_of_pos n (show 0 < m by omega)
  by_cases h : 0 ≤ t
  · rw [Int.add_emod_right, h1 h, Int.emod_emod]
  · rw [h2 (by omega), Int.emod_emod]
theorem t10 (n m : Int) (hm : 1 ≤ m ∧ m ≤ 1048576) (w : World) : Calls Try.prog 10 #[.int .i64 n, .int .i64 m] w fun e w' => e = .returned (.int .i64 (n % m + 1)) ∧ w' = w := by
  obtain ⟨t, ht⟩ : ∃ t, n.tmod m = t := ⟨_, rfl⟩
  obtain ⟨h1, h2, h3⟩ := mod_round hm.1 ht
  have e0 := Int.emod_nonneg n (show m ≠ 0 by omega)
  have e1 := Int.emod_lt_of_pos n (show 0 < m by omega)
  generalize n % m = r at *
  go_enter Try.func10, Try.ntmps10
  go_wp2
  go_ret
  exact ⟨by first | rfl | (congr 2; omega) | skip, rfl⟩
def bg (e : Int) : Bt := ⟨4607182418800017408, 4602678819172646912, 4652007308841189376, e, 1⟩
theorem size38 : (Try.prog.info? 38).map (·.size) = some 5 := by kernel_rfl
set_option maxRecDepth 20000 in
theorem t11 (e : Int) (w : World) : Calls Try.prog 11 #[.int .i64 e, .int .i64 1] w fun en w' => en = .returned (.agg (bC (bg e))) ∧ Hid (Gr w w') := by
  go_enter Try.func11, Try.ntmps11
  go_wp2
  exact bodyPost_ret (results_cell_row Try.results11 _ _ w.heap.size 38 _ (0, 0) _ rfl (heap_alloc_last _ _) Try.underlying38 rfl (by kernel_rfl)) rfl ⟨rfl, Gr.alloc _ _⟩
theorem bg_code {e : Int} (h1 : 1 ≤ e) (h2 : e ≤ 16384) : (bg e).code = 0 := by
  unfold Bt.code bg
  simp only
  rw [Gt.check_in (by decide +kernel) (by decide +kernel) (by decide +kernel) h1 h2 (by omega) (by omega), if_neg (by omega)]

/-- Whole numbers of a row, up to a number. -/
def iF (R : Nat → Int) (n : Nat) : List Value := (List.range n).map fun j => .int .i64 (R j)
theorem iF_next (R : Nat → Int) (n : Nat) : iF R (n + 1) = iF R n ++ [.int .i64 (R n)] := by
  unfold iF
  rw [List.range_succ, List.map_append]
  rfl
theorem ir_of_own {b : Nat} {w : World} {p : Option Addr} {n cap : Nat} {R : Nat → Int} (h : w.ownsRow b 2 1 (.slice p n cap) n (iF R n)) : Fo.IR w p n R := by
  intro i hi
  obtain ⟨p', cap', e1, e2⟩ := own_form h
  obtain ⟨g, hg⟩ := e2 (by omega)
  simp only [Value.slice.injEq] at e1
  obtain ⟨rfl, _, rfl⟩ := e1
  subst hg
  refine ⟨g, 0, rfl, ?_⟩
  rw [Nat.zero_add, World.ownsRow.cellAt h i (by omega)]
  unfold iF
  rw [List.getElem?_map, List.getElem?_range hi]
  rfl
theorem cap_of_own {b s n cap : Nat} {t : TypeId} {w : World} {p : Option Addr} {xs : List Value} (h : w.ownsRow b t s (.slice p n cap) n xs) : n ≤ cap := by
  rcases h.2 with ⟨e, h⟩ | ⟨g, cap, cur, e, _, _, h, _⟩
  · omega
  · simp only [Value.slice.injEq] at e
    omega
/-- What the first loop keeps: so many beats, lists, remainders, moduli. -/
structure UG (w wr : World) (ib ic ir im : Nat) (vb vc vr vm : Value) (B : Nat → Bt) (C : Nat → List Int) (R M : Nat → Int) (gf cf : Nat → Nat) : Prop where
  up : Up w wr
  bts : wr.ownsRow w.heap.size 38 5 vb ib (bF B ib)
  ll : LL w wr ic vc C gf cf
  rr : wr.ownsRow w.heap.size 2 1 vr ir (iF R ir)
  mm : wr.ownsRow w.heap.size 2 1 vm im (iF M im)
  ne : ∀ g, vr.ownBlock = some g → vm.ownBlock ≠ some g
  nr : ∀ j, j < ic → vr.ownBlock ≠ some (gf j)
  nm : ∀ j, j < ic → vm.ownBlock ≠ some (gf j)
theorem UG.start (w : World) (B : Nat → Bt) (C : Nat → List Int) (R M : Nat → Int) : UG w w 0 0 0 0 (.slice none 0 0) (.slice none 0 0) (.slice none 0 0) (.slice none 0 0) B C R M (fun _ => 0) (fun _ => 0) :=
  ⟨Up.refl _, World.ownsRow_nil _ _ _ _, LL.nil w w C, World.ownsRow_nil _ _ _ _, World.ownsRow_nil _ _ _ _, fun g h => (by cases h), fun j hj => (by omega), fun j hj => (by omega)⟩
variable {w wr wa w2 : World} {ib ic ir im : Nat} {vb vc vr vm v' : Value} {B : Nat → Bt} {C : Nat → List Int} {R M : Nat → Int} {gf cf : Nat → Nat}
theorem UG.upon (h : UG w wr ib ic ir im vb vc vr vm B C R M gf cf) (hu : Up wr w2) : UG w w2 ib ic ir im vb vc vr vm B C R M gf cf := ⟨h.up.trans hu, owns_up h.bts hu, h.ll.up hu, owns_up h.rr hu, owns_up h.mm hu, h.ne, h.nr, h.nm⟩
/-- A beat is appended. -/
theorem UG.beat (h : UG w wr ib ic ir im vb vc vr vm B C R M gf cf) (ha : Up wr wa) (hown : w2.ownsRow w.heap.size 38 5 v' (ib + 1) (bF B ib ++ bL (B ib))) (hg : wa.grownBy w2 vb.ownBlock) : UG w w2 (ib + 1) ic ir im v' vc vr vm B C R M gf cf := by
  have h2 := h.upon ha
  exact ⟨grown_up h2.up hg (fun j hj => (World.ownsRow.lt h2.bts j hj).1), by rw [bF_next]; exact hown, h2.ll.grown hg (fun g hg' => kinds_apart h2.bts h2.ll.own (by decide) hg') (h2.ll.kind h2.bts (by decide)),
    owns_grown h2.rr hg (fun g hg' => kinds_apart h2.bts h2.rr (by decide) hg'), owns_grown h2.mm hg (fun g hg' => kinds_apart h2.bts h2.mm (by decide) hg'), h.ne, h.nr, h.nm⟩
/-- A list is appended. -/
theorem UG.list {g c : Nat} (h : UG w wr ib ic ir im vb vc vr vm B C R M gf cf) (ha : Up wr wa) (hwg : w.heap.size ≤ g) (hgl : g < wr.heap.size) (htag : ∃ cs fr, wr.heap[g]? = some (.cells cs 2 fr)) (hvg : vc.ownBlock ≠ some g) (hrg : vr.ownBlock ≠ some g) (hmg : vm.ownBlock ≠ some g) (hrow : ∀ k, k < (C ic).length → wr.cell? ⟨g, k, none⟩ = some (.int .i64 (C ic)[k]!)) (hown : w2.ownsRow w.heap.size 36 1 v' (ic + 1) (((List.range ic).map fun j => Value.slice (some ⟨gf j, 0, none⟩) (C j).length (cf j)) ++ [.slice (some ⟨g, 0, none⟩) (C ic).length c])) (hg : wa.grownBy w2 vc.ownBlock) (hat : v'.ownBlock = vc.ownBlock ∨ v'.ownBlock = some wa.heap.size) :
    ∃ gf' cf', UG w w2 ib (ic + 1) ir im vb v' vr vm B C R M gf' cf' := by
  have h2 := h.upon ha
  refine ⟨_, _, grown_up h2.up hg (fun j hj => (World.ownsRow.lt h2.ll.own j hj).1), owns_grown h2.bts hg (fun g hg' => kinds_apart h2.ll.own h2.bts (by decide) hg'), h.ll.next ha hwg hgl hvg htag hrow hown hg hat,
    owns_grown h2.rr hg (fun g hg' => kinds_apart h2.ll.own h2.rr (by decide) hg'), owns_grown h2.mm hg (fun g hg' => kinds_apart h2.ll.own h2.mm (by decide) hg'), h.ne, fun j hj => ?_, fun j hj => ?_⟩
  · by_cases e : j < ic
    · simp only [if_pos e]; exact h.nr j e
    · simp only [if_neg e]; exact hrg
  · by_cases e : j < ic
    · simp only [if_pos e]; exact h.nm j e
    · simp only [if_neg e]; exact hmg
/-- A remainder is appended. -/
theorem UG.rem (h : UG w wr ib ic ir im vb vc vr vm B C R M gf cf) (ha : Up wr wa) (hown : w2.ownsRow w.heap.size 2 1 v' (ir + 1) (iF R ir ++ [.int .i64 (R ir)])) (hg : wa.grownBy w2 vr.ownBlock) (hat : v'.ownBlock = vr.ownBlock ∨ v'.ownBlock = some wa.heap.size) : UG w w2 ib ic (ir + 1) im vb vc v' vm B C R M gf cf := by
  have h2 := h.upon ha
  refine ⟨grown_up h2.up hg (fun j hj => (World.ownsRow.lt h2.rr j hj).1), owns_grown h2.bts hg (fun g hg' => kinds_apart h2.rr h2.bts (by decide) hg'), h2.ll.grown hg (fun g hg' => kinds_apart h2.rr h2.ll.own (by decide) hg') h2.nr,
    by rw [iF_next]; exact hown, owns_grown h2.mm hg h2.ne, ?_, ?_, h.nm⟩
  · rcases hat with e | e
    · rw [e]; exact h.ne
    · rw [e]
      intro g hgg e2
      cases hgg
      have := (World.ownsRow.lt h2.mm _ e2).2
      omega
  · rcases hat with e | e
    · rw [e]; exact h.nr
    · rw [e]
      intro j hj e2
      have e2 := Option.some.inj e2
      have := (h2.ll.lt j hj).2
      omega
/-- A modulus is appended. -/
theorem UG.mod (h : UG w wr ib ic ir im vb vc vr vm B C R M gf cf) (ha : Up wr wa) (hown : w2.ownsRow w.heap.size 2 1 v' (im + 1) (iF M im ++ [.int .i64 (M im)])) (hg : wa.grownBy w2 vm.ownBlock) (hat : v'.ownBlock = vm.ownBlock ∨ v'.ownBlock = some wa.heap.size) : UG w w2 ib ic ir (im + 1) vb vc vr v' B C R M gf cf := by
  have h2 := h.upon ha
  refine ⟨grown_up h2.up hg (fun j hj => (World.ownsRow.lt h2.mm j hj).1), owns_grown h2.bts hg (fun g hg' => kinds_apart h2.mm h2.bts (by decide) hg'), h2.ll.grown hg (fun g hg' => kinds_apart h2.mm h2.ll.own (by decide) hg') h2.nm,
    owns_grown h2.rr hg (fun g hg' e => h2.ne g e hg'), by rw [iF_next]; exact hown, ?_, h.nr, ?_⟩
  · rcases hat with e | e
    · rw [e]; exact h.ne
    · rw [e]
      intro g hgg e2
      cases e2
      have := (World.ownsRow.lt h2.rr _ hgg).2
      omega
  · rcases hat with e | e
    · rw [e]; exact h.nm
    · rw [e]
      intro j hj e2
      have e2 := Option.some.inj e2
      have := (h2.ll.lt j hj).2
      omega
/-- A list under way: in memory that is new since a world. -/
def FC (wc wx : World) (g k cap : Nat) (Z : List Int) : Prop := wx.ownsRow wc.heap.size 2 1 (.slice (some ⟨g, 0, none⟩) k cap) k (Z.map (Value.int .i64)) ∧ Up wc wx
theorem FC.new (w : World) (x : Int) : FC w (w.alloc (.cells #[.int .i64 x] 2)) w.heap.size 1 1 [x] := by
  refine ⟨⟨rfl, Or.inr ⟨w.heap.size, 1, #[.int .i64 x], rfl, Nat.le_refl _, ?_, Nat.le_refl _, by unfold maxLen; omega, rfl, rfl⟩⟩, Up.alloc _ _⟩
  exact heap_alloc_last _ _
theorem row_facts {b : Nat} {wx : World} {g k cap : Nat} {Z : List Int} (h1 : wx.ownsRow b 2 1 (.slice (some ⟨g, 0, none⟩) k cap) k (Z.map (Value.int .i64))) : b ≤ g ∧ g < wx.heap.size ∧ (∃ cs fr, wx.heap[g]? = some (.cells cs 2 fr)) ∧ Z.length = k ∧ ∀ j, j < Z.length → wx.cell? ⟨g, j, none⟩ = some (.int .i64 Z[j]!) := by
  have hl := World.ownsRow.lt h1 g rfl
  have hlen : Z.length = k := by have := h1.1; rw [List.length_map] at this; omega
  refine ⟨hl.1, hl.2, ?_, hlen, ?_⟩
  · rcases h1.2 with ⟨e, _⟩ | ⟨g', cap', cur, e, _, e3, _⟩
    · cases e
    · simp only [Value.slice.injEq, Option.some.injEq, Addr.mk.injEq] at e
      obtain ⟨⟨rfl, _⟩, _⟩ := e
      exact ⟨_, _, e3⟩
  · intro j hj
    rw [World.ownsRow.cellAt h1 j (by omega), List.getElem?_map, List.getElem?_eq_getElem hj, getElem!_pos Z j hj]
    rfl
theorem row_apart {wc wx : World} {g k cap : Nat} {Z : List Int} (h : wx.ownsRow wc.heap.size 2 1 (.slice (some ⟨g, 0, none⟩) k cap) k (Z.map (Value.int .i64))) {b s n : Nat} {t : TypeId} {v : Value} {xs : List Value} (hv : wc.ownsRow b t s v n xs) : v.ownBlock ≠ some g := fun e => by
  have h1 := (World.ownsRow.lt hv g e).2
  have h2 := (row_facts h).1
  omega
theorem one_newS (w : World) (v : Value) (t : TypeId) : ∀ (j : Nat) (u : Value), [v][j]? = some u → (w.alloc (.cells #[v] t)).cell? ((⟨w.heap.size, 0, none⟩ : Addr).add j) = some u := by
  intro j u hj
  cases j with
  | zero => simp at hj; subst hj; exact World.cell?_alloc_at _ _ _ _ rfl
  | succ j => simp at hj
theorem one_oneS (p : Option Addr) (n c : Nat) : ∀ u ∈ [Value.slice p n c], u.oneCell' = true := by
  intro u hu
  simp at hu
  subst hu
  rfl
theorem take_has {L : List Int} {k : Nat} {x : Int} (hk : k < L.length) : decide (x ∈ L.take (k + 1)) = (decide (x ∈ L.take k) || decide (L[k]! = x)) := by
  have e : L.take (k + 1) = L.take k ++ [L[k]!] := by
    rw [List.take_add_one, List.getElem?_eq_getElem hk, getElem!_pos L k hk]
    rfl
  rw [e, Bool.eq_iff_iff]
  simp only [decide_eq_true_eq, Bool.or_eq_true, List.mem_append, List.mem_singleton]
  rw [eq_comm (a := x)]
end Go.Proofs.Ytijfmaepoamkgab

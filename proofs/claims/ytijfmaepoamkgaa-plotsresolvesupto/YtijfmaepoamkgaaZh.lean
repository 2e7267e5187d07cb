/- PlotsOrders: copies of plots; what stays but for two blocks. -/
import Derived.Test.YtijfmaepoamkgaaZg
namespace Go.Proofs.Ytijfmaepoamkgaa
open Go.ChangeShapes Go.WideShapes Go.ChangeAt Go.RowKit Go.Fl Go.Sort

theorem addr_add5 (b o j : Nat) : (⟨b, o, none⟩ : Addr).add j = ⟨b, o + j, none⟩ := by
  unfold Addr.add
  split
  · rename_i h; subst h; rfl
  · rfl
theorem pv_src {w : World} {p : Option Addr} {n cap : Nat} {S : Nat → Plt} (h : PV w p n cap S) (hp : 0 < n) : ∃ b o, p = some ⟨b, o, none⟩ ∧ ∀ j u, (fl5 ((List.range n).map S))[j]? = some u → w.cell? ((⟨b, o, none⟩ : Addr).add j) = some u := by
  obtain ⟨b, o, e, hr⟩ := h.rd hp
  refine ⟨b, o, e, fun j u hj => ?_⟩
  have hl : j < n * 5 := by
    have := (List.getElem?_eq_some_iff.1 hj).1
    rw [fl5_len] at this
    simpa using this
  have hi : j / 5 < n := by omega
  have hk : j % 5 < 5 := Nat.mod_lt _ (by omega)
  have e1 : j = j / 5 * 5 + j % 5 := by omega
  have e2 : ((List.range n).map S).getD (j / 5) Plt.zero = S (j / 5) := by simp [hi]
  rw [e1, fl5_at (by simpa using hi) hk, e2] at hj
  rw [addr_add5]
  obtain ⟨c0, c1, c2, c3, c4⟩ := hr (j / 5) hi
  generalize hq : j % 5 = k at *
  generalize j / 5 = i at *
  subst e1
  rcases (show k = 0 ∨ k = 1 ∨ k = 2 ∨ k = 3 ∨ k = 4 by omega) with rfl | rfl | rfl | rfl | rfl <;> simp only [pL, List.getElem?_cons_zero, List.getElem?_cons_succ, Option.some.injEq] at hj <;> subst hj
  · rw [Nat.add_zero]; exact c0
  · rw [← Nat.add_assoc]; exact c1
  · rw [← Nat.add_assoc]; exact c2
  · rw [← Nat.add_assoc]; exact c3
  · rw [← Nat.add_assoc]; exact c4
theorem fl5_one (D : List Plt) : ∀ u ∈ fl5 D, u.oneCell' = true := by
  intro u hu
  unfold fl5 at hu
  obtain ⟨s, _, hs⟩ := List.mem_flatMap.1 hu
  exact five_one s u hs
theorem PO.capl {b : Nat} {w : World} {p : Option Addr} {n cap : Nat} {D : List Plt} (h : PO b w (.slice p n cap) D) : n ≤ cap := by
  rcases h.2 with ⟨e, h0⟩ | ⟨g, c0, cur, e, _, _, h4, _⟩
  · simp only [Value.slice.injEq] at e; omega
  · have := h.len; simp only [Value.slice.injEq] at e; omega
theorem app_po {w : World} {base m c ty : Nat} {p q : Option Addr} {n cq : Nat} {D : List Plt} {S : Nat → Plt} (hown : PO base w (.slice p m c) D) (hv : PV w q n cq S) (hmn : m + n ≤ 4000000) (hbase : base ≤ w.heap.size) :
    ∃ p' c' w', (Builtin.append_ #[44, 44] ty #[.slice p m c, .slice q n cq]).run Try.prog w = .ok (.slice p' (m + n) c') w' ∧ PO base w' (.slice p' (m + n) c') (D ++ (List.range n).map S) ∧ w.grownBy w' (Value.slice p m c).ownBlock := by
  obtain ⟨i0, hi, hz0, hz1, hz2⟩ := info_parts info28
  have hl := hown.len
  have hmc : m ≤ c := hown.capl
  rcases Nat.eq_zero_or_pos n with rfl | hp
  · refine ⟨p, c, w, ?_, ?_, World.grownBy.refl _ _⟩
    · refine run_append_nothing w 44 44 ty 28 i0 Try.underlying44 hi _ m c hmc _ ?_
      cases q with
      | none => exact Src.ofNil w Try.underlying44 cq
      | some a => exact Src.ofSlice w Try.underlying44 a 0 cq [] (by simp) (fun j u h => by simp at h) (fun u h => by cases h)
    · simpa using hown
  · obtain ⟨b, o, rfl, hr⟩ := pv_src hv hp
    have hown' : w.ownsRow base 28 5 (.slice p m c) m (fl5 D) := by have := hown; unfold PO at this; rwa [hl] at this
    obtain ⟨g, cap, w', h1, h2, h3, h4, _⟩ := run_append_lies (P := Try.prog) w 44 ty base 28 i0 (.agg #[.float .f64 0, .float .f64 0, .float .f64 0, .float .f64 0, .float .f64 0]) 5 40 Try.underlying44 hi hz0 hz1 hz2 rfl (by omega) (.slice p m c) m (fl5 D) hown' ⟨b, o, none⟩ n cq (fl5 ((List.range n).map S)) (by rw [fl5_len]; simp) hr (fl5_one _) hp (by unfold maxLen; omega) (by omega) hbase w.heap.size rfl
    refine ⟨_, cap, w', h1, ?_, h3⟩
    unfold PO fl5 at *
    rw [List.length_append, List.length_map, List.length_range, hl, List.flatMap_append]
    exact h2
theorem wpList_app_po {ops : Array Oper} {rest : List Oper} {o : Oper} {a : Act} {w : World} {Q : Exit → Act → World → Prop} (hgd : o.guard = none) (s x : Operand)
    (ho : o.op = .call { callee := .builtin .append, args := #[s, x], argTypes := #[44, 44] })
    (base m c : Nat) (p q : Option Addr) (n cq : Nat) (D : List Plt) (S : Nat → Plt) (hs : a.eval s = .slice p m c) (hx : a.eval x = .slice q n cq) (hown : PO base w (.slice p m c) D) (hv : PV w q n cq S) (hmn : m + n ≤ 4000000) (hbase : base ≤ w.heap.size)
    (h : ∀ p' c' w', PO base w' (.slice p' (m + n) c') (D ++ (List.range n).map S) → w.grownBy w' (Value.slice p m c).ownBlock → wpList Try.prog ops Q rest (a.put o.dst (.slice p' (m + n) c')) w') : wpList Try.prog ops Q (o :: rest) a w := by
  refine wpList_plain hgd fun K hK => ?_
  obtain ⟨p', c', w', h1, h2, h3⟩ := app_po (ty := o.type) hown hv hmn hbase
  unfold Oper.wp execOp
  simp only [ho, resolve, invoke, builtin, Sem.run_bind, Sem.run_pure, Result.andThen_ok, List.map_toArray, List.map_cons, List.map_nil, hs, hx, h1]
  exact hK _ _ (h p' c' w' h2 h3)
def markP : Plt := ⟨4635118810238550016, 0, 0, 0, 0⟩
/-- A copy of plots with spare room that is marked. -/
def OM (b : Nat) (w : World) (g n cap : Nat) (S : Nat → Plt) : Prop := PO b w (.slice (some ⟨g, 0, none⟩) (n + 1) cap) ((List.range n).map S ++ [markP])
theorem OM.pv {b : Nat} {w : World} {g n cap : Nat} {S : Nat → Plt} (h : OM b w g n cap S) (hn : n ≤ 1000000) (hf : ∀ i, i < n → (S i).Fit) : PV w (some ⟨g, 0, none⟩) n cap S ∧ n + 1 ≤ cap := by
  have hc := PO.capl h
  refine ⟨⟨by omega, hn, hf, fun h0 => ⟨g, 0, rfl, fun i hi => ?_⟩⟩, hc⟩
  obtain ⟨g', e, _, _, k⟩ := PO.at h (i := i) (by simp; omega)
  simp only [Option.some.injEq, Addr.mk.injEq] at e
  obtain ⟨rfl, _⟩ := e
  rw [Nat.zero_add]
  have e2 : ((List.range n).map S ++ [markP]).getD i Plt.zero = S i := by
    rw [List.getD_eq_getElem?_getD, List.getElem?_append_left (by simpa using hi)]
    simp [hi]
  rw [e2] at k
  exact k
theorem OM.mark {b : Nat} {w : World} {g n cap : Nat} {S : Nat → Plt} (h : OM b w g n cap S) : w.cell? ⟨g, n * 5, none⟩ = some (.float .f64 4635118810238550016) := by
  obtain ⟨g', e, _, _, k⟩ := PO.at h (i := n) (by simp)
  simp only [Option.some.injEq, Addr.mk.injEq] at e
  obtain ⟨rfl, _⟩ := e
  have e2 : ((List.range n).map S ++ [markP]).getD n Plt.zero = markP := by
    rw [List.getD_eq_getElem?_getD, List.getElem?_append_right (by simp)]
    simp
  rw [e2] at k
  exact k.c0
theorem pv_mark (w : World) : PV (w.alloc (.cells #[.float .f64 4635118810238550016, .float .f64 0, .float .f64 0, .float .f64 0, .float .f64 0] 28)) (some ⟨w.heap.size, 0, none⟩) 1 1 (fun _ => markP) :=
  ⟨Nat.le_refl _, by omega, fun _ _ => ⟨by decide, by decide, by decide, by decide, by decide⟩, fun _ => ⟨w.heap.size, 0, rfl, fun i hi => by
    obtain rfl : i = 0 := by omega
    have h := B5.new w 4635118810238550016 0 0 0 0 28
    exact ⟨h.k0, h.k1, h.k2, h.k3, h.k4⟩⟩⟩
/-- But for two blocks nothing of W has turned. -/
structure KP (W wr : World) (A X : Option Nat) : Prop where
  os : wr.os = W.os
  tape : wr.tape = W.tape
  output : wr.output = W.output
  size : W.heap.size ≤ wr.heap.size
  blk : ∀ k, k < W.heap.size → some k ≠ A → some k ≠ X → wr.heap[k]? = W.heap[k]?
theorem KP.refl (W : World) (A X : Option Nat) : KP W W A X := ⟨rfl, rfl, rfl, Nat.le_refl _, fun _ _ _ _ => rfl⟩
theorem KP.upon {W wr w2 : World} {A X : Option Nat} (h : KP W wr A X) (hu : Up wr w2) : KP W w2 A X :=
  ⟨hu.os.trans h.os, hu.tape.trans h.tape, hu.output.trans h.output, Nat.le_trans h.size hu.size, fun k hk a b => by rw [hu.block k (Nat.lt_of_lt_of_le hk h.size)]; exact h.blk k hk a b⟩
theorem KP.grown {W wr w2 : World} {A X row : Option Nat} (h : KP W wr A X) (hg : wr.grownBy w2 row) (hr : ∀ k, row = some k → k < W.heap.size → some k = A ∨ some k = X) : KP W w2 A X := by
  refine ⟨hg.os.trans h.os, hg.tape.trans h.tape, hg.output.trans h.output, Nat.le_trans h.size hg.size, fun k hk a b => ?_⟩
  rw [hg.block k (Nat.lt_of_lt_of_le hk h.size) (fun e => ?_)]
  · exact h.blk k hk a b
  · rcases hr k e.symm hk with q | q
    · exact a q
    · exact b q
theorem KP.cell {W wr : World} {A X : Option Nat} (h : KP W wr A X) {b o : Nat} {v : Value} (hc : W.cell? ⟨b, o, none⟩ = some v) (ha : some b ≠ A) (hx : some b ≠ X) : wr.cell? ⟨b, o, none⟩ = some v := by
  have hl := World.block_lt_of_cell? W _ hc
  unfold World.cell? at hc ⊢
  simp only at hc ⊢
  rw [h.blk b hl ha hx]; exact hc
theorem KP.up {w W wr : World} {A X : Option Nat} (h : KP W wr A X) (hu : Up w W) (ha : ∀ k, A = some k → w.heap.size ≤ k) (hx : ∀ k, X = some k → w.heap.size ≤ k) : Up w wr := by
  refine ⟨h.os.trans hu.os, h.tape.trans hu.tape, h.output.trans hu.output, Nat.le_trans hu.size h.size, fun k hk => ?_⟩
  have hk2 : k < W.heap.size := Nat.lt_of_lt_of_le hk hu.size
  rw [h.blk k hk2 (fun e => by have := ha k e.symm; omega) (fun e => by have := hx k e.symm; omega)]
  exact hu.block k hk
theorem KP.pv {W wr : World} {A X : Option Nat} (h : KP W wr A X) {p : Option Addr} {n cap : Nat} {S : Nat → Plt} (hv : PV W p n cap S) (hne : 0 < n → ∀ b o, p = some ⟨b, o, none⟩ → some b ≠ A ∧ some b ≠ X) : PV wr p n cap S :=
  ⟨hv.cap, hv.few, hv.fit, fun hp => by
    obtain ⟨b, o, e, k⟩ := hv.rd hp
    obtain ⟨h1, h2⟩ := hne hp b o e
    exact ⟨b, o, e, fun i hi => ⟨h.cell (k i hi).c0 h1 h2, h.cell (k i hi).c1 h1 h2, h.cell (k i hi).c2 h1 h2, h.cell (k i hi).c3 h1 h2, h.cell (k i hi).c4 h1 h2⟩⟩⟩
theorem KP.comp {W V wr : World} {A X : Option Nat} (h : KP W V A none) (k : KP V wr A X) : KP W wr A X :=
  ⟨k.os.trans h.os, k.tape.trans h.tape, k.output.trans h.output, Nat.le_trans h.size k.size, fun j hj a b => by
    rw [k.blk j (Nat.lt_of_lt_of_le hj h.size) a b]
    exact h.blk j hj a (fun e => by cases e)⟩
end Go.Proofs.Ytijfmaepoamkgaa

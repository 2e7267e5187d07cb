/- PlotsResolves: copies of lists. -/
import Derived.Test.YtijfmaepoamkgaaZk
import Derived.Test.YtijfmaepoamkgaaJn
namespace Go.Proofs.Ytijfmaepoamkgaa
open Go.ChangeShapes Go.WideShapes Go.ChangeAt Go.RowKit Go.Fl Go.Sort

theorem addr_plus (b o j : Nat) : (⟨b, o, none⟩ : Addr).add j = ⟨b, o + j, none⟩ := by
  unfold Addr.add
  split
  · rename_i h; subst h; rfl
  · rfl
/-- An append of whatever lies in a slice, onto a row of one's own. -/
theorem run_app_gen {w : World} (t ty : TypeId) (base : Nat) (e : TypeId) (i : TypeInfo) (z : Value) (size bytes : Nat) (ht : Try.prog.underlying t = some (.slice e)) (hi : Try.prog.info? e = some i) (hz : i.zero = some z) (hsize : i.size = size) (hby : i.bytes = bytes) (hzs : z.cells.size = size) (hsz : 0 < size)
    (g0 n c0 : Nat) (xs : List Value) (hown : w.ownsRow base e size (.slice (some ⟨g0, 0, none⟩) n c0) n xs) (hc : n ≤ c0) (q : Option Addr) (m c : Nat) (news : List Value) (hl : news.length = m * size) (hq : 0 < m → ∃ ad, q = some ad ∧ ∀ j u, news[j]? = some u → w.cell? (ad.add j) = some u) (h1 : ∀ u ∈ news, u.oneCell' = true)
    (h63 : n + m ≤ maxLen) (hbytes : (n + m) * bytes ≤ 140737488355328) (hbase : base ≤ w.heap.size) (H : Nat) (hH : w.heap.size = H) :
    ∃ g cap w', (Builtin.append_ #[t, t] ty #[.slice (some ⟨g0, 0, none⟩) n c0, .slice q m c]).run Try.prog w = .ok (.slice (some ⟨g, 0, none⟩) (n + m) cap) w' ∧ w'.ownsRow base e size (.slice (some ⟨g, 0, none⟩) (n + m) cap) (n + m) (xs ++ news) ∧ w.grownBy w' (some g0) ∧ (some g0 = some g ∨ g = H) := by
  rcases Nat.eq_zero_or_pos m with rfl | hp
  · refine ⟨g0, c0, w, ?_, ?_, World.grownBy.refl _ _, Or.inl rfl⟩
    · refine run_append_nothing w t t ty e i ht hi _ n c0 hc _ ?_
      cases q with
      | none => exact Src.ofNil w ht c
      | some a => exact Src.ofSlice w ht a 0 c [] (by simp) (fun j u h => by simp at h) (fun u h => by cases h)
    · have : news = [] := by simpa using hl
      subst this
      simpa using hown
  · obtain ⟨ad, rfl, hnews⟩ := hq hp
    obtain ⟨g, cap, w', k1, k2, k3, k4, _⟩ := run_append_lies (P := Try.prog) w t ty base e i z size bytes ht hi hz hsize hby hzs hsz (.slice (some ⟨g0, 0, none⟩) n c0) n xs hown ad m c news hl hnews h1 hp h63 hbytes hbase H hH
    exact ⟨g, cap, w', k1, k2, k3, k4⟩
theorem step_app_gen {ops : Array Oper} {o : Oper} {a : Act} {w : World} {K : Act → World → Prop} {Q : Exit → Act → World → Prop} {E : Prop} (hgd : o.guard = none) (s x : Operand) (t : TypeId) (ho : o.op = .call { callee := .builtin .append, args := #[s, x], argTypes := #[t, t] })
    (base : Nat) (e : TypeId) (i : TypeInfo) (z : Value) (size bytes : Nat) (ht : Try.prog.underlying t = some (.slice e)) (hi : Try.prog.info? e = some i) (hz : i.zero = some z) (hsize : i.size = size) (hby : i.bytes = bytes) (hzs : z.cells.size = size) (hsz : 0 < size)
    (g0 n c0 : Nat) (xs : List Value) (hs : a.eval s = .slice (some ⟨g0, 0, none⟩) n c0) (hown : w.ownsRow base e size (.slice (some ⟨g0, 0, none⟩) n c0) n xs) (hc : n ≤ c0) (q : Option Addr) (m c : Nat) (news : List Value) (hx : a.eval x = .slice q m c) (hl : news.length = m * size) (hq : 0 < m → ∃ ad, q = some ad ∧ ∀ j u, news[j]? = some u → w.cell? (ad.add j) = some u) (h1 : ∀ u ∈ news, u.oneCell' = true)
    (h63 : n + m ≤ maxLen) (hbytes : (n + m) * bytes ≤ 140737488355328) (hbase : base ≤ w.heap.size) (H : Nat) (hH : w.heap.size = H)
    (h : ∀ g cap w', w'.ownsRow base e size (.slice (some ⟨g, 0, none⟩) (n + m) cap) (n + m) (xs ++ news) → w.grownBy w' (some g0) → (some g0 = some g ∨ g = H) → K (a.put o.dst (.slice (some ⟨g, 0, none⟩) (n + m) cap)) w') :
    if Region.wanted o (yielded ops a.tmps) = true then Oper.wp Try.prog o a w K Q else E := by
  have hw : Region.wanted o (yielded ops a.tmps) = true := by simp [Region.wanted, hgd]
  rw [if_pos hw]
  obtain ⟨g, cap, w', k1, k2, k3, k4⟩ := run_app_gen t o.type base e i z size bytes ht hi hz hsize hby hzs hsz g0 n c0 xs hown hc q m c news hl hq h1 h63 hbytes hbase H hH
  unfold Oper.wp execOp
  simp only [ho, resolve, invoke, builtin, Sem.run_bind, Sem.run_pure, Result.andThen_ok, List.map_toArray, List.map_cons, List.map_nil, hs, hx, k1]
  exact h g cap w' k2 k3 k4
theorem step_app_new {ops : Array Oper} {o : Oper} {a : Act} {w : World} {K : Act → World → Prop} {Q : Exit → Act → World → Prop} {E : Prop} (hgd : o.guard = none) (s x : Operand) (t : TypeId) (ho : o.op = .call { callee := .builtin .append, args := #[s, x], argTypes := #[t, t] })
    (base : Nat) (e : TypeId) (i : TypeInfo) (z : Value) (size bytes : Nat) (ht : Try.prog.underlying t = some (.slice e)) (hi : Try.prog.info? e = some i) (hz : i.zero = some z) (hsize : i.size = size) (hby : i.bytes = bytes) (hzs : z.cells.size = size) (hsz : 0 < size)
    (g0 : Nat) (hs : a.eval s = .slice (some ⟨g0, 0, none⟩) 0 0) (hown : w.ownsRow base e size (.slice (some ⟨g0, 0, none⟩) 0 0) 0 []) (q : Option Addr) (m c : Nat) (news : List Value) (hx : a.eval x = .slice q m c) (hl : news.length = m * size) (hq : 0 < m → ∃ ad, q = some ad ∧ ∀ j u, news[j]? = some u → w.cell? (ad.add j) = some u) (h1 : ∀ u ∈ news, u.oneCell' = true)
    (h63 : m ≤ maxLen) (hbytes : m * bytes ≤ 140737488355328) (hbase : base ≤ w.heap.size) (H : Nat) (hH : w.heap.size = H)
    (h : ∀ g cap w', w'.ownsRow base e size (.slice (some ⟨g, 0, none⟩) m cap) m news → w.grownBy w' (some g0) → (some g0 = some g ∨ g = H) → K (a.put o.dst (.slice (some ⟨g, 0, none⟩) m cap)) w') :
    if Region.wanted o (yielded ops a.tmps) = true then Oper.wp Try.prog o a w K Q else E :=
  step_app_gen hgd s x t ho base e i z size bytes ht hi hz hsize hby hzs hsz g0 0 0 [] hs hown (Nat.le_refl _) q m c news hx hl hq h1 (by rw [Nat.zero_add]; exact h63) (by rw [Nat.zero_add]; exact hbytes) hbase H hH fun g cap w' h2 h3 h4 => by
    rw [Nat.zero_add] at h2 ⊢
    exact h g cap w' h2 h3 h4
theorem ir_src {w : World} {q : Option Addr} {D : List Int} (h : Fo.IR w q D.length (fun j => D[j]!)) : 0 < D.length → ∃ ad, q = some ad ∧ ∀ j u, (D.map (Value.int .i64))[j]? = some u → w.cell? (ad.add j) = some u := fun hp => by
  obtain ⟨b, o, rfl, _⟩ := h 0 hp
  refine ⟨_, rfl, fun j u hj => ?_⟩
  rw [List.getElem?_map] at hj
  have hl : j < D.length := by
    rcases Nat.lt_or_ge j D.length with q | q
    · exact q
    · rw [List.getElem?_eq_none q] at hj; cases hj
  obtain ⟨b', o', e, k⟩ := h j hl
  simp only [Option.some.injEq, Addr.mk.injEq] at e
  obtain ⟨rfl, rfl, _⟩ := e
  rw [List.getElem?_eq_getElem hl] at hj
  simp only [Option.map_some, Option.some.injEq] at hj
  subst hj
  rw [addr_plus, k]
  simp only [getElem!_pos D j hl]
theorem ints_one (D : List Int) : ∀ u ∈ D.map (Value.int .i64), u.oneCell' = true := by
  intro u hu
  obtain ⟨x, _, rfl⟩ := List.mem_map.1 hu
  rfl
theorem empty_own (w : World) (t : TypeId) {b : Nat} (hb : b ≤ w.heap.size) : (w.alloc (.cells #[] t)).ownsRow b t 1 (.slice (some ⟨w.heap.size, 0, none⟩) 0 0) 0 [] := World.ownsRow_lit w #[] 0 hb (by unfold maxLen; omega) rfl
theorem new_at (w : World) (cs : Array Value) (t : TypeId) (k : Nat) (v : Value) (h : cs[k]? = some v) : (w.alloc (.cells cs t)).cell? ⟨w.heap.size, k, none⟩ = some v := (World.cell?_alloc_at _ _ _ _ rfl).trans h
theorem new_at1 (w : World) (o : Obj) (cs : Array Value) (t : TypeId) (k : Nat) (v : Value) (h : cs[k]? = some v) : ((w.alloc o).alloc (.cells cs t)).cell? ⟨w.heap.size + 1, k, none⟩ = some v := by
  have := new_at (w.alloc o) cs t k v h
  simpa using this
theorem news_one {w : World} {b : Nat} {x : Value} (h : w.cell? ⟨b, 0, none⟩ = some x) : ∀ (j : Nat) (u : Value), [x][j]? = some u → w.cell? ((⟨b, 0, none⟩ : Addr).add j) = some u := by
  intro j u hj
  match j, hj with
  | 0, hj => simp at hj; subst hj; exact h
theorem own_cap9 {b : Nat} {w : World} {t : TypeId} {s n : Nat} {p : Option Addr} {cap : Nat} {xs : List Value} (h : w.ownsRow b t s (.slice p n cap) n xs) : n ≤ cap := by
  rcases h.2 with ⟨e, h0⟩ | ⟨g, c0, cur, e, _, _, h4, _⟩
  · simp only [Value.slice.injEq] at e; omega
  · simp only [Value.slice.injEq] at e; omega
theorem own_far {b n : Nat} {w w' : World} {t : TypeId} {s : Nat} {v : Value} {xs : List Value} {r : Option Nat} (h : w.ownsRow b t s v n xs) (hg : w.grownBy w' r) (hr : ∀ k, v.ownBlock = some k → some k ≠ r) : w'.ownsRow b t s v n xs := by
  have hlt := fun k hk => (h.lt k hk).2
  obtain ⟨h1, h2⟩ := h
  refine ⟨h1, ?_⟩
  rcases h2 with h2 | ⟨g, cap, cur, rfl, k2, k3, k4⟩
  · exact Or.inl h2
  · refine Or.inr ⟨g, cap, cur, rfl, k2, ?_, k4⟩
    rw [hg.block g (hlt g rfl) (hr g rfl)]; exact k3
theorem info39 : (Try.prog.info? 39).map (fun i => (i.zero, i.size, i.bytes)) = some (some (.slice none 0 0), 1, 24) := by kernel_rfl
theorem info24 : (Try.prog.info? 24).map (fun i => (i.zero, i.size, i.bytes)) = some (some (.agg #[.float .f64 0, .float .f64 0, .float .f64 0, .int .i64 0, .int .i64 0]), 5, 40) := by kernel_rfl
/-- A list of cells that is marked behind its end. -/
def MK (b : Nat) (w : World) (v : Value) (D : List Int) : Prop := ∃ g cap, v = .slice (some ⟨g, 0, none⟩) D.length cap ∧ D.length + 1 ≤ cap ∧ Fo.OI b w (.slice (some ⟨g, 0, none⟩) (D.length + 1) cap) (D ++ [77])
/-- The copies so far. -/
structure CM (W0 wr : World) (v : Value) (C : Nat → List Int) (i : Nat) (hs : List Value) : Prop where
  row : wr.ownsRow W0.heap.size 39 1 v i hs
  each : ∀ j, j < i → ∃ u, hs[j]? = some u ∧ MK W0.heap.size wr u (C j)
  up : Up W0 wr
theorem CM.nil (W0 : World) (C : Nat → List Int) : CM W0 W0 (.slice none 0 0) C 0 [] := ⟨⟨by simp, Or.inl ⟨rfl, rfl⟩⟩, fun j hj => by omega, Up.refl _⟩
theorem CM.len {W0 wr : World} {v : Value} {C : Nat → List Int} {i : Nat} {hs : List Value} (h : CM W0 wr v C i hs) : hs.length = i := by
  have := h.row.1
  simpa using this
theorem MK.up {b : Nat} {w w' : World} {v : Value} {D : List Int} (h : MK b w v D) (hu : Up w w') : MK b w' v D := by
  obtain ⟨g, cap, h1, h2, h3⟩ := h
  exact ⟨g, cap, h1, h2, Fo.OI.up h3 hu⟩
theorem CM.upon {W0 wr w' : World} {v : Value} {C : Nat → List Int} {i : Nat} {hs : List Value} (h : CM W0 wr v C i hs) (hu : Up wr w') : CM W0 w' v C i hs :=
  ⟨Fo.owns_up h.row hu, fun j hj => by obtain ⟨u, h1, h2⟩ := h.each j hj; exact ⟨u, h1, h2.up hu⟩, h.up.trans hu⟩
theorem CM.push {W0 wr w1 w2 : World} {o : Obj} {v v' : Value} {C : Nat → List Int} {i g cap : Nat} {hs : List Value} (h : CM W0 wr v C i hs) (hu : Up wr w1) (ho : Fo.OI wr.heap.size w1 (.slice (some ⟨g, 0, none⟩) ((C i).length + 1) cap) (C i ++ [77])) (hc : (C i).length + 1 ≤ cap)
    (hgr : (w1.alloc o).grownBy w2 v.ownBlock) (hown : w2.ownsRow W0.heap.size 39 1 v' (i + 1) (hs ++ [.slice (some ⟨g, 0, none⟩) (C i).length cap])) : CM W0 w2 v' C (i + 1) (hs ++ [.slice (some ⟨g, 0, none⟩) (C i).length cap]) := by
  have hl := h.len
  have hrow := Fo.owns_up (h.row) (hu.trans (Up.alloc w1 o))
  have key : ∀ {u : Value} {D : List Int} {b : Nat}, Fo.OI b (w1.alloc o) u D → Fo.OI b w2 u D := fun {u D b} k => own_far k hgr fun x hx e => (kinds_apart k hrow (by decide) hx) e.symm
  refine ⟨hown, fun j hj => ?_, ?_⟩
  · by_cases e : j = i
    · subst e
      refine ⟨_, by rw [List.getElem?_append_right (by omega), hl, Nat.sub_self]; rfl, g, cap, rfl, hc, key (Fo.OI.up (Fo.OI.base ho h.up.size) (Up.alloc _ _))⟩
    · obtain ⟨u, k1, g', cap', k2, k3, k4⟩ := h.each j (by omega)
      exact ⟨u, by rw [List.getElem?_append_left (by omega)]; exact k1, g', cap', k2, k3, key (Fo.OI.up k4 (hu.trans (Up.alloc _ _)))⟩
  · exact Below.grown ((h.up.trans hu).trans (Up.alloc _ _)) hgr (by have := (h.up.trans hu).size; simp; omega) (fun x hx => (h.row.lt x hx).1)
end Go.Proofs.Ytijfmaepoamkgaa
/- PlotsResolves: copies of beats; the answers; what is written over. -/
namespace Go.Proofs.Ytijfmaepoamkgaa
open Go.ChangeShapes Go.WideShapes Go.ChangeAt Go.RowKit Go.Fl Go.Sort

def bL (b : Bt) : List Value := [.float .f64 b.c, .float .f64 b.v, .float .f64 b.r, .int .i64 b.E, .int .i64 b.R]
def fbt (B : Nat → Bt) : Nat → List Value
  | 0 => []
  | n + 1 => fbt B n ++ bL (B n)
theorem fbt_len (B : Nat → Bt) : ∀ n, (fbt B n).length = n * 5
  | 0 => rfl
  | n + 1 => by
    show (fbt B n ++ bL (B n)).length = _
    rw [List.length_append, fbt_len B n]
    simp [bL]
    omega
theorem fbt_at (B : Nat → Bt) : ∀ {n i k : Nat} (_ : i < n) (_ : k < 5), (fbt B n)[i * 5 + k]? = (bL (B i))[k]?
  | 0, i, k, hi, _ => by omega
  | n + 1, i, k, hi, hk => by
    show (fbt B n ++ bL (B n))[i * 5 + k]? = _
    have hl := fbt_len B n
    by_cases e : i = n
    · subst e
      rw [List.getElem?_append_right (by omega), hl, Nat.add_sub_cancel_left]
    · rw [List.getElem?_append_left (by omega)]
      exact fbt_at B (by omega) hk
theorem fbt_one (B : Nat → Bt) : ∀ n, ∀ u ∈ fbt B n, u.oneCell' = true
  | 0, u, h => by cases h
  | n + 1, u, h => by
    rcases List.mem_append.1 (show u ∈ fbt B n ++ bL (B n) from h) with q | q
    · exact fbt_one B n u q
    · simp [bL] at q
      rcases q with rfl | rfl | rfl | rfl | rfl <;> rfl
theorem bv_src {w : World} {p : Option Addr} {n : Nat} {B : Nat → Bt} (h : BV w p n B) : 0 < n → ∃ ad, p = some ad ∧ ∀ j u, (fbt B n)[j]? = some u → w.cell? (ad.add j) = some u := fun hp => by
  obtain ⟨b, o, rfl, _⟩ := h 0 hp
  refine ⟨_, rfl, fun j u hj => ?_⟩
  have hl : j < n * 5 := by
    have := (List.getElem?_eq_some_iff.1 hj).1
    rwa [fbt_len] at this
  have hi : j / 5 < n := by omega
  have hk : j % 5 < 5 := Nat.mod_lt _ (by omega)
  have e1 : j = j / 5 * 5 + j % 5 := by omega
  rw [e1, fbt_at B hi hk] at hj
  rw [addr_plus]
  obtain ⟨b', o', e, c0, c1, c2, c3, c4⟩ := h (j / 5) hi
  simp only [Option.some.injEq, Addr.mk.injEq] at e
  obtain ⟨rfl, rfl, _⟩ := e
  generalize hq : j % 5 = k at *
  generalize j / 5 = i at *
  subst e1
  rcases (show k = 0 ∨ k = 1 ∨ k = 2 ∨ k = 3 ∨ k = 4 by omega) with rfl | rfl | rfl | rfl | rfl <;> simp only [bL, List.getElem?_cons_zero, List.getElem?_cons_succ, Option.some.injEq] at hj <;> subst hj
  · rw [Nat.add_zero]; exact c0
  · rw [← Nat.add_assoc]; exact c1
  · rw [← Nat.add_assoc]; exact c2
  · rw [← Nat.add_assoc]; exact c3
  · rw [← Nat.add_assoc]; exact c4
def markB : Bt := ⟨0, 0, 0, 0, 78⟩
theorem empty_own5 (w : World) (t : TypeId) {b : Nat} (hb : b ≤ w.heap.size) : (w.alloc (.cells #[] t)).ownsRow b t 5 (.slice (some ⟨w.heap.size, 0, none⟩) 0 0) 0 [] := World.ownsRow_lit w #[] 0 hb (by unfold maxLen; omega) rfl
/-- A copy of beats that is marked behind its end. -/
def BK9 (b : Nat) (w : World) (g n cap : Nat) (B : Nat → Bt) : Prop := w.ownsRow b 24 5 (.slice (some ⟨g, 0, none⟩) (n + 1) cap) (n + 1) (fbt B n ++ bL markB)
theorem BK9.up {b : Nat} {w w' : World} {g n cap : Nat} {B : Nat → Bt} (h : BK9 b w g n cap B) (hu : Up w w') : BK9 b w' g n cap B := Fo.owns_up h hu
theorem BK9.bv {b : Nat} {w : World} {g n cap : Nat} {B : Nat → Bt} (h : BK9 b w g n cap B) : BV w (some ⟨g, 0, none⟩) n B := fun i hi => by
  have c : ∀ k v, k < 5 → (bL (B i))[k]? = some v → w.cell? ⟨g, i * 5 + k, none⟩ = some v := fun k v hk hv => by
    rw [World.ownsRow.cellAt h _ (by omega), List.getElem?_append_left (by rw [fbt_len]; omega), fbt_at B hi hk]
    exact hv
  refine ⟨g, 0, rfl, ?_⟩
  rw [Nat.zero_add]
  exact ⟨c 0 _ (by omega) rfl, c 1 _ (by omega) rfl, c 2 _ (by omega) rfl, c 3 _ (by omega) rfl, c 4 _ (by omega) rfl⟩
theorem BK9.mark {b : Nat} {w : World} {g n cap : Nat} {B : Nat → Bt} (h : BK9 b w g n cap B) : w.cell? ⟨g, n * 5 + 4, none⟩ = some (.int .i64 78) := by
  rw [World.ownsRow.cellAt h _ (by omega), List.getElem?_append_right (by rw [fbt_len]; omega), fbt_len, Nat.add_sub_cancel_left]
  rfl
theorem bmark_new {w : World} {b : Nat} (h0 : w.heap[b]? = some (.cells #[.float .f64 0, .float .f64 0, .float .f64 0, .int .i64 0, .int .i64 78] 24)) : ∀ (j : Nat) (u : Value), (bL markB)[j]? = some u → w.cell? ((⟨b, 0, none⟩ : Addr).add j) = some u := fun j u hj => World.news_of_block h0 j u hj
theorem last_one (W : World) (o o' : Obj) : ((W.alloc o).alloc o').heap[W.heap.size + 1]? = some o' := by
  have := heap_alloc_last (W.alloc o) o'
  rwa [show (W.alloc o).heap.size = W.heap.size + 1 by simp] at this
theorem bL_one (b : Bt) : ∀ u ∈ bL b, u.oneCell' = true := by
  intro u q
  simp [bL] at q
  rcases q with rfl | rfl | rfl | rfl | rfl <;> rfl
/-- What Resolve answers, in one form. -/
def ResN (A : Int) (L : List Int) (N : Nat) (w : World) (e : Ending) (w' : World) : Prop := ∃ p c, e = .returned (.tuple #[.slice p N c, .int .i64 A]) ∧ Hid (Fo.OI w.heap.size w' (.slice p N c) L) ∧ Hid (Up w w')
theorem ResR.to {w w' : World} {A : Int} {L L' : List Int} {N : Nat} {e : Ending} (h : ResR w A L e w') (h1 : L' = if A = 0 then L else []) (h2 : L'.length = N) : ResN A L' N w e w' := by
  obtain ⟨hu, h⟩ := h
  rcases h with ⟨ha, rfl⟩ | ⟨ha, p, c, rfl, ho⟩
  · rw [if_neg ha] at h1
    subst h1
    subst h2
    exact ⟨none, 0, rfl, Fo.OI.nil _ _, hu⟩
  · rw [if_pos ha] at h1
    subst h1
    subst h2
    exact ⟨p, c, by rw [ha], ho, hu⟩
theorem res_few {code E : Nat → Int} {C : Nat → List Int} {n : Nat} {off most : Int} : (if resC code E C n off most = 0 then resL off E C n most.toNat else []).length ≤ 65536 := by
  split
  · rename_i h
    unfold resC at h
    split at h
    · contradiction
    · split at h
      · cases h
      · omega
  · simp
/-- A copy's cells. -/
theorem CM.at_ {W0 wr : World} {p : Option Addr} {n cap : Nat} {C : Nat → List Int} {hs : List Value} (h : CM W0 wr (.slice p n cap) C n hs) {i : Nat} (hi : i < n) : ∃ G g c, p = some ⟨G, 0, none⟩ ∧ wr.cell? ⟨G, i, none⟩ = some (.slice (some ⟨g, 0, none⟩) (C i).length c) ∧ (C i).length + 1 ≤ c ∧ Fo.IR wr (some ⟨g, 0, none⟩) (C i).length (fun j => (C i)[j]!) ∧ wr.cell? ⟨g, (C i).length, none⟩ = some (.int .i64 77) := by
  obtain ⟨u, h1, g, c, rfl, h3, h4⟩ := h.each i hi
  obtain ⟨p', c', e1, e2⟩ := own_form h.row
  simp only [Value.slice.injEq] at e1
  obtain ⟨G, hG⟩ := e2 (by omega)
  rw [← e1.1] at hG
  subst hG
  refine ⟨G, g, c, rfl, ?_, h3, fun j hj => ⟨g, 0, rfl, ?_⟩, ?_⟩
  · rw [World.ownsRow.cellAt h.row i (by omega)]; exact h1
  · rw [Nat.zero_add, Fo.OI.cell h4 (i := j) (by simp; omega), getElem!_pos (C i ++ [77]) j (by simp; omega), List.getElem_append_left hj]
    simp only [getElem!_pos (C i) j hj]
  · rw [Fo.OI.cell h4 (i := (C i).length) (by simp), getElem!_pos (C i ++ [77]) (C i).length (by simp), List.getElem_append_right (Nat.le_refl _)]
    simp
theorem CM.cv {W0 wr : World} {p : Option Addr} {n cap : Nat} {C : Nat → List Int} {hs : List Value} (h : CM W0 wr (.slice p n cap) C n hs) : CV wr p n C := fun i hi => by
  obtain ⟨G, g, c, e, k1, _, k3, _⟩ := h.at_ hi
  exact ⟨G, 0, _, c, e, by rw [Nat.zero_add]; exact k1, k3⟩
/-- While one answer is written over: the other stays. -/
structure LK (wa wb wr : World) (vl vk : Value) (m : Nat) (xs : List Value) (L : List Int) : Prop where
  up : Up wa wr
  l : wr.ownsRow wa.heap.size 2 1 vl m xs
  k : Fo.OI wb.heap.size wr vk L
  ne : ∀ x, vl.ownBlock = some x → vk.ownBlock ≠ some x
theorem LK.set {wa wb wr : World} {g m c : Nat} {vk : Value} {xs : List Value} {L : List Int} (h : LK wa wb wr (.slice (some ⟨g, 0, none⟩) m c) vk m xs L) (i : Nat) (u : Value) : LK wa wb (wr.setCell ⟨g, i, none⟩ u) (.slice (some ⟨g, 0, none⟩) m c) vk m (xs.set i u) L := by
  obtain ⟨s1, s2⟩ := World.ownsRow.stored h.l i u
  refine ⟨Below.grown h.up s2 h.up.size (fun x hx => ?_), s1, own_far h.k s2 (fun x hx e => h.ne x e.symm hx), h.ne⟩
  cases hx
  exact (h.l.lt g rfl).1
theorem LK.push {wa wb wr w' : World} {o : Obj} {vl vl' vk : Value} {m : Nat} {xs xs' : List Value} {L : List Int} (h : LK wa wb wr vl vk m xs L) (hown : w'.ownsRow wa.heap.size 2 1 vl' (m + 1) xs') (hgr : (wr.alloc o).grownBy w' vl.ownBlock) (hb : vl'.ownBlock = vl.ownBlock ∨ vl'.ownBlock = some (wr.alloc o).heap.size) : LK wa wb w' vl' vk (m + 1) xs' L := by
  have hk2 := Fo.OI.up h.k (Up.alloc wr o)
  refine ⟨Below.grown (h.up.trans (Up.alloc _ _)) hgr (by have := h.up.size; simp; omega) (fun x hx => (h.l.lt x hx).1), hown, own_far hk2 hgr (fun x hx e => h.ne x e.symm hx), fun x hx e => ?_⟩
  rcases hb with q | q
  · exact h.ne x (q.symm.trans hx) e
  · rw [q] at hx
    cases hx
    have := (hk2.lt _ e).2
    omega
theorem wpList_push2 {ops : Array Oper} {rest : List Oper} {o : Oper} {a : Act} {Q : Exit → Act → World → Prop} (hgd : o.guard = none) (s x : Operand) (ho : o.op = .call { callee := .builtin .append, args := #[s, x], argTypes := #[39, 39] })
    {wa wb w : World} {z : Int} (p : Option Addr) (m c : Nat) (vk : Value) (L : List Int) (xs : List Value) (hs : a.eval s = .slice p m c) (hx : a.eval x = .slice (some ⟨w.heap.size, 0, none⟩) 1 1) (HO : LK wa wb w (.slice p m c) vk m xs L) (hm : m ≤ 2000000)
    (h : ∀ p' c' w' xs', Hid (LK wa wb w' (.slice p' (m + 1) c') vk (m + 1) xs' L) → wpList Try.prog ops Q rest (a.put o.dst (.slice p' (m + 1) c')) w') : wpList Try.prog ops Q (o :: rest) a (w.alloc (.cells #[.int .i64 z] 2)) := by
  obtain ⟨i0, hi, hz0, hz2, hz3⟩ := info_parts Fo.info2
  refine wpList_append_own_at _ hgd s x 39 ho wa.heap.size 2 i0 (.int .i64 0) 1 8 Try.underlying39 hi hz0 hz2 hz3 rfl (by decide) _ _ _ hs (World.ownsRow.alloc HO.l _) ⟨w.heap.size, 0, none⟩ 1 1 [.int .i64 z] hx rfl (Fo.one_new _ _ _) (Fo.one_one _) (by unfold maxLen; omega) (by omega) (by have := HO.up.size; simp; omega) ?_
  intro v' w' h1 h2 _ h4
  obtain ⟨p', c', hv, _⟩ := own_form h1
  subst hv
  exact h p' c' w' _ (HO.push h1 h2 h4)
end Go.Proofs.Ytijfmaepoamkgaa
/- PlotsResolves: lists alike, and nothing but draws. -/
namespace Go.Proofs.Ytijfmaepoamkgaa
open Go.ChangeShapes Go.WideShapes Go.ChangeAt Go.RowKit

set_option maxHeartbeats 1000000 in
theorem t16d (p q : Option Addr) (n c1 c2 : Nat) (f : Nat → Int) (w : World) (hn : n < 4611686018427387904) (h1 : Fo.IR w p n f) (h2 : Fo.IR w q n f) : Calls Try.prog 16 #[.slice p n c1, .slice q n c2] w fun e w' => e = .returned (.bool true) ∧ ∃ k, w' = w.drewN k := by
  have H1 : Hid (Fo.IR w p n f) := h1
  have H2 : Hid (Fo.IR w q n f) := h2
  clear h1 h2
  have hnz : (n : Int) < 4611686018427387904 := by omega
  go_enter Try.func16, Try.ntmps16
  go_wp2
  go_loopw [5] (fun vi wr => ∃ i : Nat, i ≤ n ∧ vi = .int .i64 i ∧ Hid (∃ k, wr = w.drewN k)) (fun vi _ => n - (intOf vi).toNat)
  case atStart => exact ⟨0, by omega, rfl, 0, rfl⟩
  case round =>
    obtain ⟨i, hi, rfl, HU⟩ := hrel
    rename World => wr
    by_cases hlt : i < n
    · obtain ⟨b1, o1, rfl, d1⟩ := H1.out i hlt
      obtain ⟨b2, o2, rfl, d2⟩ := H2.out i hlt
      have HV : Hid (Up w wr) := by
        obtain ⟨k, hk⟩ := HU.out
        rw [hk]
        exact Up.drewN _ _
      have e1 := cell_up d1 HV.out
      have e2 := cell_up d2 HV.out
      generalize f i = z at e1 e2
      clear d1 d2
      have hiz : (i : Int) < (n : Int) := by omega
      have hiz0 : (0 : Int) ≤ (i : Int) := by omega
      go_wp2_with fail
      go_quiet (fail)
      all_goals (try go_wp2)
      go_roundw
      case rel =>
        refine ⟨i + 1, by omega, by go_num, ?_⟩
        obtain ⟨k, hk⟩ := HU.out
        rw [hk]
        exact ⟨_, World.drewN_drewN _ _ _⟩
      case measure => simp [intOf]; omega
    · obtain rfl : i = n := by omega
      go_wp2
      go_ret
      exact ⟨rfl, HU.out⟩
end Go.Proofs.Ytijfmaepoamkgaa

/- PeaksHighest: maps that are the same, rows lent. -/
import Derived.Test.YtephkmahnbhmbaaZb
import Derived.Test.YtephkmahnbhmbaaVa
namespace Go.Proofs.Ytephkmahnbhmbaa
open Go.ChangeShapes Go.WideShapes Go.ChangeAt Go.RowKit Go.Fl Go.Sort
attribute [local go_sem] run_store_float call52 run_neg fold_eq fold_ne fold_lt fold_gt abs_eq
set_option maxRecDepth 20000
/-- Two lists of floats that hold the same. -/
theorem t33 {w : World} {p p' : Option Addr} {n c c' : Nat} {d : Array Nat} (h : SV w p n c d) (h' : SV w p' n c' d) (hn : n ≤ 1152921504606846976) : Calls Try.prog 33 #[.slice p n c, .slice p' n c'] w fun e w' => e = .returned (.bool true) ∧ ∃ k, w' = w.drewN k := by
  have H : Hid (SV w p n c d) := h
  have H' : Hid (SV w p' n c' d) := h'
  clear h h'
  go_enter Try.func33, Try.ntmps33
  go_wp2
  go_loopw [5, 6] (fun vi _ wr => ∃ i : Nat, i ≤ n ∧ vi = .int .i64 i ∧ Hid (∃ k, wr = w.drewN k)) (fun vi _ _ => n - (intOf vi).toNat)
  case atStart => exact ⟨0, by omega, rfl, 0, rfl⟩
  case round =>
    obtain ⟨i, hi, rfl, hw⟩ := hrel
    obtain ⟨k, rfl⟩ := hw.out
    by_cases hlt : i < n
    · obtain ⟨b, o, rfl, hr⟩ := H.out.rd (by omega)
      obtain ⟨b', o', rfl, hr'⟩ := H'.out.rd (by omega)
      have x0 : (w.drewN k).cell? ⟨b, o + i, none⟩ = _ := hr i (by rw [H.out.len]; exact hlt)
      have y0 : (w.drewN k).cell? ⟨b', o' + i, none⟩ = _ := hr' i (by rw [H.out.len]; exact hlt)
      obtain ⟨s, hs⟩ : ∃ s, d[i]! = s := ⟨_, rfl⟩
      rw [hs] at x0 y0
      clear hr hr' hs
      have z1 : (i : Int) < (n : Int) := by omega
      have z2 : (0 : Int) ≤ (i : Int) := by omega
      have C20 : Hid (∀ w, Calls Try.prog 20 #[.float .f64 s, .float .f64 s] w fun e w' => e = .returned (.bool true) ∧ w' = w) := fun w => by
        have := t20 s s w
        rwa [beq_self_eq_true] at this
      generalize w.drewN k = wr at *
      go_wp2_with fail
      go_quiet (first | (go_at_call 20; refine Calls.quiet_of_same (C20.out _)))
      go_wp2
      go_roundw
      case rel =>
        obtain ⟨k2, hk2⟩ := hw.out
        exact ⟨i + 1, by omega, by go_num, k2 + nq, by rw [hk2, World.drewN_drewN]⟩
      case measure => simp [intOf]; omega
    · obtain rfl : i = n := by omega
      go_wp2
      go_ret
      exact ⟨rfl, k, rfl⟩
/-- Two maps that hold the same. -/
theorem t12 {w : World} {p p' : Option Addr} {n c c' : Nat} {D : Nat → Array Nat} (h : MV w p n c D) (h' : MV w p' n c' D) : Calls Try.prog 12 #[.slice p n c, .slice p' n c'] w fun e w' => e = .returned (.bool true) ∧ ∃ k, w' = w.drewN k := by
  have hf := h.few
  have H : Hid (MV w p n c D) := h
  have H' : Hid (MV w p' n c' D) := h'
  clear h h'
  go_enter Try.func12, Try.ntmps12
  go_wp2
  go_loopw [5, 6] (fun vi _ wr => ∃ i : Nat, i ≤ n ∧ vi = .int .i64 i ∧ Hid (∃ k, wr = w.drewN k)) (fun vi _ _ => n - (intOf vi).toNat)
  case atStart => exact ⟨0, by omega, rfl, 0, rfl⟩
  case round =>
    obtain ⟨i, hi, rfl, hw⟩ := hrel
    obtain ⟨k, rfl⟩ := hw.out
    by_cases hlt : i < n
    · obtain ⟨b, o, rfl, hr⟩ := H.out.rd (by omega)
      obtain ⟨b', o', rfl, hr'⟩ := H'.out.rd (by omega)
      obtain ⟨q, c1, x0, s0⟩ := hr i hlt
      obtain ⟨q', c1', y0, s0'⟩ := hr' i hlt
      have x0 : (w.drewN k).cell? ⟨b, o + i, none⟩ = _ := x0
      have y0 : (w.drewN k).cell? ⟨b', o' + i, none⟩ = _ := y0
      have hsm := H.out.small i hlt
      have C33 : Hid (∀ m, Calls Try.prog 33 #[.slice q (D i).size c1, .slice q' (D i).size c1'] ((w.drewN k).drewN m) fun e w' => e = .returned (.bool true) ∧ ∃ j, w' = ((w.drewN k).drewN m).drewN j) := fun m => t33 (s0.up ((Up.drewN _ _).trans (Up.drewN _ _))) (s0'.up ((Up.drewN _ _).trans (Up.drewN _ _))) hsm
      generalize (D i).size = z at *
      clear hr hr' s0 s0'
      have z1 : (i : Int) < (n : Int) := by omega
      have z2 : (0 : Int) ≤ (i : Int) := by omega
      generalize w.drewN k = wr at *
      go_wp2_with fail
      go_quiet (first | (go_at_call 33; refine Calls.quiet_of (C33.out _)))
      go_wp2
      go_roundw
      case rel =>
        obtain ⟨k2, hk2⟩ := hw.out
        exact ⟨i + 1, by omega, by go_num, k2 + nq, by rw [hk2, World.drewN_drewN]⟩
      case measure => simp [intOf]; omega
    · obtain rfl : i = n := by omega
      go_wp2
      go_ret
      exact ⟨rfl, k, rfl⟩
/-- A row of floats appended to one's own, up to a great length. -/
theorem app_svL {w : World} {base m c ty : Nat} {p q : Option Addr} {n cq : Nat} {O : List Nat} {d : Array Nat} (hown : w.ownsRow base 24 1 (.slice p m c) m (O.map fe)) (hv : SV w q n cq d) (hmn : m + n ≤ 1099511627776) (hbase : base ≤ w.heap.size) :
    ∃ p' c' w', (Builtin.append_ #[23, 23] ty #[.slice p m c, .slice q n cq]).run Try.prog w = .ok (.slice p' (m + n) c') w' ∧ w'.ownsRow base 24 1 (.slice p' (m + n) c') (m + n) ((O ++ d.toList).map fe) ∧ w.grownBy w' (Value.slice p m c).ownBlock := by
  obtain ⟨i0, hi, hz0, hz1, hz2⟩ := info_parts info23
  have hmc : m ≤ c := by
    rcases hown.2 with ⟨e, h0⟩ | ⟨g, c0, cur, e, _, _, h4, _⟩
    · simp only [Value.slice.injEq] at e; omega
    · simp only [Value.slice.injEq] at e; omega
  rcases Nat.eq_zero_or_pos n with rfl | hp
  · have hd : d.toList = [] := by have := hv.len; simpa using this
    refine ⟨p, c, w, ?_, ?_, World.grownBy.refl _ _⟩
    · refine run_append_nothing w 23 23 ty 24 i0 Try.underlying23 hi _ m c hmc _ ?_
      cases q with
      | none => exact Src.ofNil w Try.underlying23 cq
      | some a => exact Src.ofSlice w Try.underlying23 a 0 cq [] (by simp) (fun j u h => by simp at h) (fun u h => by cases h)
    · rw [hd, List.append_nil]; exact hown
  · obtain ⟨b, o, rfl, hr⟩ := hv.rd hp
    obtain ⟨g, cap, w', h1, h2, h3, h4, _⟩ := run_append_lies (P := Try.prog) w 23 ty base 24 i0 (.float .f64 0) 1 8 Try.underlying23 hi hz0 hz1 hz2 rfl (by omega) (.slice p m c) m (O.map fe) hown ⟨b, o, none⟩ n cq (d.toList.map fe) (by simp [hv.len]) (reads_news hr) (one_cells _) hp (by unfold maxLen; omega) (by omega) hbase w.heap.size rfl
    exact ⟨_, cap, w', h1, by rw [List.map_append]; exact h2, h3⟩
theorem wpList_app_svL {ops : Array Oper} {rest : List Oper} {o : Oper} {a : Act} {w : World} {Q : Exit → Act → World → Prop} (hgd : o.guard = none) (s x : Operand)
    (ho : o.op = .call { callee := .builtin .append, args := #[s, x], argTypes := #[23, 23] })
    (base m c : Nat) (p q : Option Addr) (n cq : Nat) (O : List Nat) (d : Array Nat) (hs : a.eval s = .slice p m c) (hx : a.eval x = .slice q n cq) (hown : w.ownsRow base 24 1 (.slice p m c) m (O.map fe)) (hv : SV w q n cq d) (hmn : m + n ≤ 1099511627776) (hbase : base ≤ w.heap.size)
    (h : ∀ p' c' w', w'.ownsRow base 24 1 (.slice p' (m + n) c') (m + n) ((O ++ d.toList).map fe) → w.grownBy w' (Value.slice p m c).ownBlock → wpList Try.prog ops Q rest (a.put o.dst (.slice p' (m + n) c')) w') : wpList Try.prog ops Q (o :: rest) a w := by
  refine wpList_plain hgd fun K hK => ?_
  obtain ⟨p', c', w', h1, h2, h3⟩ := app_svL (ty := o.type) hown hv hmn hbase
  unfold Oper.wp execOp
  simp only [ho, resolve, invoke, builtin, Sem.run_bind, Sem.run_pure, Result.andThen_ok, List.map_toArray, List.map_cons, List.map_nil, hs, hx, h1]
  exact hK _ _ (h p' c' w' h2 h3)
/-- A row of spots told by its list can be read. -/
theorem so_view {b n c : Nat} {w : World} {p : Option Addr} {L : List Spt} (h : SO b w (.slice p n c) L) (hl : L.length = n) (hn : n ≤ 1000000000000) (hw : ∀ s ∈ L, Wf s ∧ s.2.2 < 18446744073709551616) : SpV w p n c L.toArray := by
  have hm : ∀ i, i < n → L.toArray[i]! ∈ L := fun i hi => by
    have e : L.toArray[i]! = L[i]! := by simp
    rw [e, getElem!_pos L i (by omega)]
    exact List.getElem_mem _
  refine ⟨by simpa using hl, ?_, by omega, fun i hi => (hw _ (hm i hi)).1, fun i hi => (hw _ (hm i hi)).2, fun hp => ?_⟩
  · rcases h.2 with ⟨e, h0⟩ | ⟨g, c0, cur, e, _, _, h4, _⟩
    · simp only [Value.slice.injEq] at e; omega
    · simp only [Value.slice.injEq] at e; omega
  · obtain ⟨r, rfl, hor, _, _⟩ := so_row h (by omega)
    refine ⟨r, 0, rfl, fun i hi => ?_⟩
    have hc := (hor.cell (i := i) (by simp; omega)).1
    simpa using hc
theorem high_ok {D : Nat → Array Nat} {n : Nat} (hn : n ≤ 1152921504606846976) (hs : ∀ i, i < n → (D i).size ≤ 1152921504606846976) (hF : ∀ i, i < n → Fit (D i)) : ∀ s ∈ highF D n, Wf s ∧ s.2.2 < 18446744073709551616 := by
  intro s h
  obtain ⟨b, g, hb, hg, _, rfl⟩ := mem_high.1 h
  have h1 := short_le (D := D) hb
  have h2 := hs b hb
  have h3 := hF b hb g (by omega)
  exact ⟨⟨⟨by show (-9223372036854775808 : Int) ≤ (b : Int); omega, by show (b : Int) ≤ 9223372036854775807; omega⟩, by show (-9223372036854775808 : Int) ≤ (g : Int); omega, by show (g : Int) ≤ 9223372036854775807; omega⟩, h3⟩
/-- The first number of a spot laid anew. -/
theorem OwnR.bin {w : World} {g cap : Nat} {d : Array Spt} (h : OwnR w g cap d) {k : Nat} (hk : k < d.size) (z : Int) : OwnR (w.setCell ⟨g, k * 3, none⟩ (.int .i64 z)) g cap (d.set! k (z, (d[k]!).2)) := by
  obtain ⟨cur, h1, h2, h3⟩ := h.ex
  have hle := h.le
  refine ⟨⟨_, row_setCells [.int .i64 z] (k * 3) w cur h1, by rw [size_setMany]; exact h2, fun i hi => ?_⟩, by simpa using hle, h.most⟩
  have hi' : i < d.size := by simpa using hi
  rw [get_many (by omega), get_many (by omega), get_many (by omega)]
  simp only [List.length_singleton]
  by_cases hik : i = k
  · subst hik
    have e : (d.set! i (z, (d[i]!).2))[i]! = (z, (d[i]!).2) := by simp [Array.set!, hk]
    rw [e, if_pos (by omega), if_neg (by omega), if_neg (by omega), show i * 3 - i * 3 = 0 by omega]
    exact ⟨rfl, (h3 i hi').2.1, (h3 i hi').2.2⟩
  · have e : (d.set! k (z, (d[k]!).2))[i]! = d[i]! := by
      show (d.setIfInBounds k _)[i]! = _
      rw [getElem!_pos _ i (by simpa using hi'), getElem!_pos d i hi', Array.getElem_setIfInBounds_ne (by simpa using hi') (Ne.symm hik)]
    rw [e, if_neg (by omega), if_neg (by omega), if_neg (by omega)]
    exact h3 i hi'
/-- The mark. -/
abbrev mk300 : Nat := 9094988921128908188
/-- Rows lent, each with a mark behind its end, and their list. -/
structure TI (w : World) (D : Nat → Array Nat) (i : Nat) (v : Value) (gf cf : Nat → Nat) (wr : World) : Prop where
  up : Up w wr
  own : wr.ownsRow w.heap.size 23 1 v i ((List.range i).map fun j => .slice (some ⟨gf j, 0, none⟩) (D j).size (cf j))
  rows : ∀ j, j < i → wr.ownsRow w.heap.size 24 1 (.slice (some ⟨gf j, 0, none⟩) ((D j).size + 1) (cf j)) ((D j).size + 1) (((D j).toList ++ [mk300]).map fe)
theorem TI.start (w : World) (D : Nat → Array Nat) : TI w D 0 (.slice none 0 0) (fun _ => 0) (fun _ => 0) w := ⟨Up.refl _, World.ownsRow_nil _ _ _ _, fun j hj => by omega⟩
theorem TI.up' {w : World} {D : Nat → Array Nat} {i : Nat} {v : Value} {gf cf : Nat → Nat} {wr W : World} (h : TI w D i v gf cf wr) (hu : Up wr W) : TI w D i v gf cf W := ⟨h.up.trans hu, owns_up h.own hu, fun j hj => owns_up (h.rows j hj) hu⟩
theorem TI.next {w : World} {D : Nat → Array Nat} {i r cr : Nat} {v v' : Value} {gf cf : Nat → Nat} {wr w3 : World} {o : Obj} (h : TI w D i v gf cf wr) (hrow : wr.ownsRow w.heap.size 24 1 (.slice (some ⟨r, 0, none⟩) ((D i).size + 1) cr) ((D i).size + 1) (((D i).toList ++ [mk300]).map fe))
    (hown : w3.ownsRow w.heap.size 23 1 v' (i + 1) (((List.range i).map fun j => .slice (some ⟨gf j, 0, none⟩) (D j).size (cf j)) ++ [.slice (some ⟨r, 0, none⟩) (D i).size cr])) (hg : (wr.alloc o).grownBy w3 v.ownBlock) :
    TI w D (i + 1) v' (fun j => if j < i then gf j else r) (fun j => if j < i then cf j else cr) w3 := by
  have hv : (wr.alloc o).ownsRow w.heap.size 23 1 v i ((List.range i).map fun j => .slice (some ⟨gf j, 0, none⟩) (D j).size (cf j)) := owns_up h.own (Up.alloc _ _)
  refine ⟨grown_up (h.up.trans (Up.alloc _ _)) hg (fun j hj => (h.own.lt j hj).1), ?_, fun j hj => ?_⟩
  · have e : ((List.range (i + 1)).map fun j => Value.slice (some ⟨if j < i then gf j else r, 0, none⟩) (D j).size (if j < i then cf j else cr)) = ((List.range i).map fun j => .slice (some ⟨gf j, 0, none⟩) (D j).size (cf j)) ++ [.slice (some ⟨r, 0, none⟩) (D i).size cr] := by
      rw [List.range_succ, List.map_append]
      congr 1
      · refine List.map_congr_left fun j hj => ?_
        have := List.mem_range.1 hj
        rw [if_pos this, if_pos this]
      · simp
    rw [e]; exact hown
  · by_cases q : j < i
    · simp only [if_pos q]
      have h1 : (wr.alloc o).ownsRow w.heap.size 24 1 _ _ _ := owns_up (h.rows j q) (Up.alloc _ _)
      exact owns_grown h1 hg (fun g hg' => kinds_apart hv h1 (by decide) hg')
    · obtain rfl : j = i := by omega
      simp only [if_neg q]
      have h1 : (wr.alloc o).ownsRow w.heap.size 24 1 _ _ _ := owns_up hrow (Up.alloc _ _)
      exact owns_grown h1 hg (fun g hg' => kinds_apart hv h1 (by decide) hg')
theorem row_reads {w : World} {b r z c : Nat} {d : Array Nat} (hz : d.size = z) (h : w.ownsRow b 24 1 (.slice (some ⟨r, 0, none⟩) (z + 1) c) (z + 1) ((d.toList ++ [mk300]).map fe)) : (∀ k, k < z → w.cell? ⟨r, k, none⟩ = some (.float .f64 d[k]!)) ∧ w.cell? ⟨r, z, none⟩ = some (.float .f64 mk300) ∧ z + 1 ≤ c := by
  subst hz
  have hO : Own b w (.slice (some ⟨r, 0, none⟩) (d.size + 1) c) (d.toList ++ [mk300]).toArray := own_list (by simp) (by simpa using h)
  obtain ⟨g, c0, e, _, hle, hr⟩ := own_reads hO
  simp only [Value.slice.injEq, Option.some.injEq, Addr.mk.injEq] at e
  obtain ⟨⟨rfl, _⟩, _, rfl⟩ := e
  refine ⟨fun k hk => ?_, ?_, by simpa using hle⟩
  · have := hr k (by simp; omega)
    rw [Nat.zero_add] at this
    rw [this]
    congr 2
    rw [getElem!_pos _ k (by simp; omega), getElem!_pos d k hk]
    simp [List.getElem_append_left, hk]
  · have := hr d.size (by simp)
    rw [Nat.zero_add] at this
    rw [this]
    congr 2
    rw [getElem!_pos _ d.size (by simp)]
    simp
theorem TI.mv {w : World} {D : Nat → Array Nat} {n c : Nat} {q : Option Addr} {gf cf : Nat → Nat} {wr : World} (h : TI w D n (.slice q n c) gf cf wr) (hn : n ≤ 1152921504606846976) (hs : ∀ i, i < n → (D i).size ≤ 1152921504606846976) (hF : ∀ i, i < n → Fit (D i)) : MV wr q n c D := by
  have hO : OR (fun v : Value => v) 23 w.heap.size wr (.slice q n c) ((List.range n).map fun j => .slice (some ⟨gf j, 0, none⟩) (D j).size (cf j)) := by
    unfold OR
    rw [List.length_map, List.length_range, List.map_map]
    exact h.own
  refine ⟨?_, fun hp => ?_, hs, hn⟩
  · rcases h.own.2 with ⟨e, h0⟩ | ⟨g, c0, cur, e, _, _, h4, _⟩
    · simp only [Value.slice.injEq] at e; omega
    · simp only [Value.slice.injEq] at e; omega
  · obtain ⟨p', c', hv, hg⟩ := own_form h.own
    obtain ⟨g, rfl⟩ := hg hp
    simp only [Value.slice.injEq] at hv
    obtain ⟨rfl, _, rfl⟩ := hv
    refine ⟨g, 0, rfl, fun i hi => ?_⟩
    have hc := hO.cell (i := i) (by simpa using hi)
    have e : ((List.range n).map fun j => Value.slice (some ⟨gf j, 0, none⟩) (D j).size (cf j))[i]! = .slice (some ⟨gf i, 0, none⟩) (D i).size (cf i) := by
      rw [getElem!_pos _ i (by simpa using hi)]; simp
    rw [e] at hc
    obtain ⟨r1, _, r3⟩ := row_reads rfl (h.rows i hi)
    refine ⟨some ⟨gf i, 0, none⟩, cf i, by rw [Nat.zero_add]; exact hc, ⟨rfl, by omega, hF i hi, fun _ => ⟨gf i, 0, rfl, fun k hk => by rw [Nat.zero_add]; exact r1 k hk⟩⟩⟩
end Go.Proofs.Ytephkmahnbhmbaa
/- PeaksHighest: the walk. -/
namespace Go.Proofs.Ytephkmahnbhmbaa
open Go.ChangeShapes Go.WideShapes Go.ChangeAt Go.RowKit Go.Fl Go.Sort
attribute [local go_sem] run_store_float call52 run_neg fold_eq fold_ne fold_lt fold_gt abs_eq
set_option maxRecDepth 20000
theorem info22 : (Try.prog.info? 23).map (fun i => (i.zero, i.size, i.bytes)) = some (some (.slice none 0 0), 1, 24) := by kernel_rfl
/-- A row that was lent: the numbers, and the mark. -/
theorem room_own {w2 : World} {b z : Nat} {v2 : Value} {d : Array Nat} (hl : d.size = z) (h : w2.ownsRow b 24 1 v2 (z + 1) ((d.toList).map fe ++ [.float .f64 mk300])) : ∃ r c, v2 = .slice (some ⟨r, 0, none⟩) (z + 1) c ∧ w2.ownsRow b 24 1 (.slice (some ⟨r, 0, none⟩) (z + 1) c) (z + 1) ((d.toList ++ [mk300]).map fe) ∧ z + 1 ≤ c := by
  obtain ⟨p, c, rfl, hg⟩ := own_form h
  obtain ⟨r, rfl⟩ := hg (by omega)
  have h2 : w2.ownsRow b 24 1 (.slice (some ⟨r, 0, none⟩) (z + 1) c) (z + 1) ((d.toList ++ [mk300]).map fe) := by rw [List.map_append]; exact h
  exact ⟨r, c, rfl, h2, (row_reads hl h2).2.2⟩
theorem room_up {w w1 w2 : World} {o : Obj} {p1 : Option Addr} {n c1 : Nat} {xs : List Value} (h1 : (w.alloc (.cells #[] 24)).grownBy w1 (Value.slice (some ⟨w.heap.size, 0, none⟩) 0 0).ownBlock) (ho : w1.ownsRow w.heap.size 24 1 (.slice p1 n c1) n xs) (h2 : (w1.alloc o).grownBy w2 (Value.slice p1 n c1).ownBlock) : Up w w2 := by
  have k1 : Kp (fun k => k < w.heap.size) w w1 := (Kp.of_up (Up.alloc _ _)).trans (grown_kp h1 (fun r hr hlt => by
    have hr' : some w.heap.size = some r := hr
    simp at hr'
    omega))
  have k2 : Kp (fun k => k < w.heap.size) w1 w2 := (Kp.of_up (Up.alloc _ _)).trans (grown_kp h2 (fun r hr hlt => by
    have := (ho.lt r hr).1
    omega))
  exact (k1.trans k2).up (fun k hk => hk)
theorem owns_base {b b' n s : Nat} {t : TypeId} {w : World} {v : Value} {xs : List Value} (h : w.ownsRow b t s v n xs) (hb : b' ≤ b) : w.ownsRow b' t s v n xs := by
  obtain ⟨h1, h2⟩ := h
  refine ⟨h1, ?_⟩
  rcases h2 with h2 | ⟨g, cap, cur, rfl, k2, k3⟩
  · exact Or.inl h2
  · exact Or.inr ⟨g, cap, cur, rfl, Nat.le_trans hb k2, k3⟩
set_option maxHeartbeats 8000000 in
theorem t3h {w : World} {p : Option Addr} {n cap : Nat} {D : Nat → Array Nat} (h : MV w p n cap D) (hn : n ≤ 1048576) (hd : ∀ i, i < n → (D i).size ≤ 1048576) (hF : ∀ i, i < n → Fit (D i)) (hsz : n * shortF D n ≤ 1000000000000) : Calls Try.prog 3 #[.slice p n cap] w fun e w' => e = .returned (.bool true) ∧ Hid (Up w w') := by
  have C13 : Hid (∀ w, Calls Try.prog 13 #[] w fun e w' => e = .returned (.bool true) ∧ Hid (Up w w')) := t13
  have H : Hid (MV w p n cap D) := h
  have HD : Hid (∀ i, i < n → (D i).size ≤ 1048576) := hd
  have HF : Hid (∀ i, i < n → Fit (D i)) := hF
  have HSZ : Hid (n * shortF D n ≤ 1000000000000) := hsz
  have hcap := h.cap
  obtain ⟨i0, hi0, hz0, hz1, hz2⟩ := info_parts info29
  obtain ⟨j0, hj0, hy0, hy1, hy2⟩ := info_parts info23
  obtain ⟨l0, hl0, hx0, hx1, hx2⟩ := info_parts info22
  have hmt : ∀ (g : Nat) (W : World), (storeCells ⟨g, 0, none⟩ (#[] : Array Value).toList).run Try.prog W = .ok () W := fun g W => rfl
  clear h hd hF hsz
  go_enter Try.func3, Try.ntmps3
  go_wp2
  go_loopw [3, 4, 5] (fun v3 v4 _ wr => ∃ (i c : Nat) (q : Option Addr) (gf cf : Nat → Nat), i ≤ n ∧ v4 = .int .i64 i ∧ v3 = .slice q i c ∧ Hid (TI w D i (.slice q i c) gf cf wr)) (fun _ v4 _ _ => n - (intOf v4).toNat)
  case atStart => exact ⟨0, 0, none, _, _, by omega, rfl, rfl, TI.start _ _⟩
  case round =>
    obtain ⟨i, c, q, gf, cf, hi, rfl, rfl, HT⟩ := hrel
    rename World => W
    by_cases hlt : i < n
    · obtain ⟨mb, mo, rfl, hr⟩ := H.out.rd (by omega)
      obtain ⟨q1, c1, k1, k2⟩ := hr i hlt
      have HSV : Hid (SV (W.alloc (.cells #[] 24)) q1 (D i).size c1 (D i)) := k2.up (HT.out.up.trans (Up.alloc _ _))
      have HK : Hid (w.cell? ⟨mb, mo + i, none⟩ = some (.slice q1 (D i).size c1)) := k1
      have cr := cell_up k1 (HT.out.up.trans (Up.alloc W (.cells #[] 24)))
      have hzd := HD.out i hlt
      obtain ⟨z, hz⟩ : ∃ z, (D i).size = z := ⟨_, rfl⟩
      have HZ : Hid ((D i).size = z) := hz
      rw [hz] at cr hzd HSV HK
      have hO := own_empty W
      have sz0 : w.heap.size ≤ W.heap.size := HT.out.up.size
      have x1 : (i : Int) < (n : Int) := by omega
      have x2 : (0 : Int) ≤ (i : Int) := by omega
      clear hr k1 k2 hz
      go_wp2_with (first
        | ((fail_if_success have := hgrow1); at_builtin; refine wpList_app_svL rfl _ _ rfl W.heap.size 0 0 (some ⟨W.heap.size, 0, none⟩) q1 z c1 [] (D i) rfl rfl hO HSV.out (by omega) (by simp) ?_; intro p1 cc1 w1 hown1 hgrow1; simp only [Nat.zero_add, List.nil_append] at hown1; (have hg1 := hgrow1.size))
        | ((fail_if_success have := HU2); at_builtin; refine wpList_append_own _ rfl _ _ 23 rfl W.heap.size 24 j0 (.float .f64 0) 1 8 Try.underlying23 hj0 hy0 hy1 hy2 rfl (by decide) _ _ _ rfl (hown1.alloc _) ⟨w1.heap.size, 0, none⟩ 1 1 [.float .f64 mk300] rfl rfl (one_new _ _ _) (one_cellV rfl) (by unfold maxLen; omega) (by omega) (by simp at hg1 ⊢; omega) ?_; intro v2 w2 hown2 hgrow2 hnil2; (obtain ⟨r2, c2, hv2, HRO, hc2⟩ := room_own HZ.out hown2); subst hv2; (have HU2 : Hid (Up W w2) := room_up hgrow1 hown1 hgrow2); (have z1 : (z : Int) ≤ (c2 : Int) := by omega); (have cr2 := cell_up HK.out (HT.out.up.trans HU2.out)); (have HT2 : Hid (TI w D i (.slice q i c) gf cf w2) := HT.out.up' HU2.out); (have HO2 : Hid (w2.ownsRow w.heap.size 23 1 (.slice q i c) i ((List.range i).map fun j => .slice (some ⟨gf j, 0, none⟩) (D j).size (cf j))) := HT2.out.own); (have sz2 : w.heap.size ≤ w2.heap.size := HT2.out.up.size); (have HRO2 : Hid (w2.ownsRow w.heap.size 24 1 (.slice (some ⟨r2, 0, none⟩) (z + 1) c2) (z + 1) (((D i).toList ++ [mk300]).map fe)) := owns_base HRO sz0); clear hown2 hgrow2 hnil2 hown1 hgrow1 HRO cr hg1)
        | (at_builtin; refine wpList_append_own _ rfl _ _ 22 rfl w.heap.size 23 l0 (.slice none 0 0) 1 24 Try.underlying22 hl0 hx0 hx1 hx2 rfl (by decide) _ _ _ rfl (HO2.out.alloc _) ⟨w2.heap.size, 0, none⟩ 1 1 [.slice (some ⟨r2, 0, none⟩) z c2] rfl rfl (one_new _ _ _) (one_cellV rfl) (by unfold maxLen; omega) (by omega) (by simp; omega) ?_; intro v3 w3 hown3 hgrow3 hnil3))
      obtain ⟨q3, c3, hv3, -⟩ := own_form hown3
      subst hv3
      have HT3 : Hid (TI w D (i + 1) (.slice q3 (i + 1) c3) (fun j => if j < i then gf j else r2) (fun j => if j < i then cf j else c2) w3) := TI.next HT2.out (by rw [HZ.out]; exact HRO2.out) (by rw [HZ.out]; exact hown3) hgrow3
      clear hown3 hgrow3 hnil3
      go_wp2
      go_roundw
      case rel => exact ⟨i + 1, c3, q3, _, _, by omega, by go_num, rfl, HT3⟩
      case measure => simp [intOf]; omega
    · obtain rfl : i = n := by omega
      obtain ⟨M, hM⟩ : ∃ M, (highF D i).length = M := ⟨_, rfl⟩
      have HML : Hid ((highF D i).length = M) := hM
      have hMb : M ≤ 1000000000000 := by rw [← hM]; exact Nat.le_trans (topAll_len _ _ _ _) HSZ.out
      have HIN : Hid (MV W q i c D) := HT.out.mv (by omega) (fun j hj => by have := HD.out j hj; omega) HF.out
      have HOKS : Hid (∀ s ∈ highF D i, Wf s ∧ s.2.2 < 18446744073709551616) := high_ok (by omega) (fun j hj => by have := HD.out j hj; omega) HF.out
      have C9 : Hid (∀ W', Up W W' → Calls Try.prog 9 #[.slice q i c] W' fun e w' => ∃ q c, e = .returned (.slice q M c) ∧ Hid (SO W'.heap.size w' (.slice q M c) (highF D i)) ∧ Hid (Up W' w')) := fun W' hu => hM ▸ t9 (HIN.out.up hu) HSZ.out
      have C10 : Hid (∀ W', Up W W' → Calls Try.prog 10 #[.slice p i cap] W' fun e w' => ∃ q c, e = .returned (.slice q M c) ∧ Hid (SO W'.heap.size w' (.slice q M c) (highF D i)) ∧ Hid (Up W' w')) := fun W' hu => hM ▸ t10 (H.out.up (HT.out.up.trans hu)) HSZ.out
      clear hM hi hlt
      go_wp2_with (first
        | ((fail_if_success have := HU1); go_at_call 9; (with_reducible refine (C9.out _ (Up.refl _)).mono ?_); rintro e w1 ⟨qa, ca, rfl, HSA, HU1⟩)
        | (go_at_call 9; (with_reducible refine (C9.out _ HU1.out).mono ?_); rintro e w2 ⟨qb, cb, rfl, HSB, HU2⟩; (have HU12 : Hid (Up W w2) := HU1.out.trans HU2.out))
        | (go_at_call 10; (with_reducible refine (C10.out _ HU12.out).mono ?_); rintro e w3 ⟨qw, cw, rfl, HSW, HU3⟩; (have C11 : Hid (Calls Try.prog 11 #[.slice qa M ca, .slice qw M cw] w3 fun e w' => e = .returned (.bool true) ∧ ∃ k, w' = w3.drewN k) := t11 (so_view (HSA.out.up (HU2.out.trans HU3.out)) HML.out hMb HOKS.out) (so_view HSW.out HML.out hMb HOKS.out)))
        | (go_at_call 11; (with_reducible refine C11.out.mono ?_); rintro e w4 ⟨rfl, k4, hw⟩; subst w4))
      have HSA5 : Hid (SO W.heap.size (w3.drewN k4) (.slice qa M ca) (highF D i)) := HSA.out.up (HU2.out.trans (HU3.out.trans (Up.drewN _ _)))
      have HSB5 : Hid (SO w1.heap.size (w3.drewN k4) (.slice qb M cb) (highF D i)) := HSB.out.up (HU3.out.trans (Up.drewN _ _))
      have HSW5 : Hid (SO w2.heap.size (w3.drewN k4) (.slice qw M cw) (highF D i)) := HSW.out.up (Up.drewN _ _)
      have HAL : Hid (∀ r, (Value.slice qa M ca).ownBlock = some r → W.heap.size ≤ r ∧ r < w1.heap.size) := fun r hr => World.ownsRow.lt HSA.out r hr
      have HBL : Hid (∀ r, (Value.slice qb M cb).ownBlock = some r → w1.heap.size ≤ r ∧ r < w2.heap.size) := fun r hr => World.ownsRow.lt HSB.out r hr
      have HWL : Hid (∀ r, (Value.slice qw M cw).ownBlock = some r → w2.heap.size ≤ r ∧ r < w3.heap.size) := fun r hr => World.ownsRow.lt HSW.out r hr
      have HS12 : Hid (w1.heap.size ≤ w2.heap.size ∧ w2.heap.size ≤ w3.heap.size ∧ W.heap.size ≤ w1.heap.size) := ⟨HU2.out.size, HU3.out.size, HU1.out.size⟩
      have HUW5 : Hid (Up W (w3.drewN k4)) := HU12.out.trans (HU3.out.trans (Up.drewN _ _))
      have eS : w3.heap.size = (w3.drewN k4).heap.size := rfl
      rw [eS] at HWL HS12
      clear eS C9 C10 C11 HSA HSB HSW HU1 HU2 HU3 HU12
      generalize w3.drewN k4 = W5 at *
      have HF2 : Hid (∀ r, (Value.slice qa M ca).ownBlock = some r → ¬ (r < W5.heap.size ∧ some r ≠ (Value.slice qa M ca).ownBlock)) := fun r hr h => h.2 hr.symm
      go_loopw [9] (fun v9 wr => ∃ (t : Nat) (d : List Spt), t ≤ M ∧ v9 = .int .i64 t ∧ Hid (d.length = M) ∧ Hid (SO W.heap.size wr (.slice qa M ca) d) ∧ Hid (Kp (fun k => k < W5.heap.size ∧ some k ≠ (Value.slice qa M ca).ownBlock) W5 wr)) (fun v9 _ => M - (intOf v9).toNat)
      case atStart => exact ⟨0, _, by omega, rfl, HML, HSA5, Kp.refl _ _⟩
      case round =>
        clear HSA5
        obtain ⟨t, d, ht, rfl, HDL, HSD, HKD⟩ := hrel
        rename World => wr
        by_cases hlt2 : t < M
        · obtain ⟨ra, hq, hor, -, -⟩ := so_row HSD.out (by rw [HDL.out]; omega)
          subst hq
          obtain ⟨⟨u0, -, -⟩, fz⟩ := hor.cell (i := t) (by have := HDL.out; simp; omega)
          have uf := fz (t * 3)
          have HOR : Hid (OwnR wr ra ca d.toArray) := hor
          have HAR : Hid (W.heap.size ≤ ra) := (World.ownsRow.lt HSD.out ra rfl).1
          clear hor fz
          have x1 : (t : Int) < (M : Int) := by omega
          have x2 : (0 : Int) ≤ (t : Int) := by omega
          go_wp2
          have HO2 := HOR.out.bin (k := t) (by have := HDL.out; simp; omega) (-9)
          have HS2 : Hid (SO W.heap.size (wr.setCell ⟨ra, t * 3, none⟩ (.int .i64 (-9))) (.slice (some ⟨ra, 0, none⟩) M ca) (d.toArray.set! t (-9, (d.toArray[t]!).2)).toList) := OwnR.so HO2 HAR.out (by have := HDL.out; simpa using this)
          have HK2 : Hid (Kp (fun k => k < W5.heap.size ∧ some k ≠ (Value.slice (some ⟨ra, 0, none⟩) M ca).ownBlock) W5 (wr.setCell ⟨ra, t * 3, none⟩ (.int .i64 (-9)))) := HKD.out.trans (Kp.setCell _ _ _ _ (HF2.out ra rfl))
          clear HO2 u0 uf
          go_roundw
          case rel => exact ⟨t + 1, _, by omega, by go_num, by have := HDL.out; show _ = _; simpa using this, HS2, HK2⟩
          case measure => simp [intOf]; omega
        · obtain rfl : t = M := by omega
          go_wp2
          go_loopw [6, 10] (fun v6 v10 wr3 => ∃ (s m c6 : Nat) (q6 : Option Addr) (d : List Spt), s ≤ 9 ∧ v10 = .int .i64 s ∧ v6 = .slice q6 m c6 ∧ (m : Int) = t + s ∧ Hid (d.length = m) ∧ Hid (SO W.heap.size wr3 (.slice q6 m c6) d) ∧ Hid (∀ r, (Value.slice q6 m c6).ownBlock = some r → ¬ (r < W5.heap.size ∧ some r ≠ (Value.slice qa t ca).ownBlock)) ∧ Hid (Kp (fun k => k < W5.heap.size ∧ some k ≠ (Value.slice qa t ca).ownBlock) W5 wr3)) (fun _ v10 _ => 9 - (intOf v10).toNat)
          case atStart => exact ⟨0, t, ca, qa, d, by omega, rfl, rfl, by omega, HDL, HSD, HF2, HKD⟩
          case round =>
            clear HDL HSD HKD
            obtain ⟨s, m, c6, q6, d, hs9, rfl, rfl, hms, HDL, HSD, HN6, HKD⟩ := hrel
            rename World => wr3
            by_cases hls : s < 9
            · have hown : wr3.ownsRow W.heap.size 29 3 (.slice q6 m c6) m (d.flatMap spC) := by have := HSD.out; unfold SO at this; rw [HDL.out] at this; exact this
              have sz : W.heap.size ≤ wr3.heap.size := (HUW5.out.trans2 HKD.out (fun k hk => by
                have h1 := HS12.out
                refine ⟨by omega, fun e => ?_⟩
                have := (HAL.out k e.symm).1
                omega)).size
              have hW5 : W5.heap.size ≤ wr3.heap.size := HKD.out.size
              have hmm : m ≤ 1000000000009 := by omega
              have hs1 : (s : Int) < 9 := by omega
              go_wp2_with (at_builtin; refine wpList_append_own_at _ rfl _ _ 25 rfl W.heap.size 29 i0 (.agg #[.int .i64 0, .int .i64 0, .float .f64 0]) 3 24 Try.underlying25 hi0 hz0 hz1 hz2 rfl (by decide) _ _ _ rfl (hown.alloc _) ⟨wr3.heap.size, 0, none⟩ 1 1 [.int .i64 (-8), .int .i64 0, .float .f64 0] rfl rfl (three_new _ _ _ _ _) (three_one rfl rfl rfl) (by unfold maxLen; omega) (by omega) (by simp; omega) ?_; intro v6' w6 hown6 hgrow6 hnil6 hat6)
              obtain ⟨p6', c6', hv6, -⟩ := own_form hown6
              subst hv6
              have HS6 : Hid (SO W.heap.size w6 (.slice p6' (m + 1) c6') (d ++ [((-8 : Int), (0 : Int), (0 : Nat))])) := by
                show w6.ownsRow _ _ _ _ _ _
                rw [List.flatMap_append, List.length_append, HDL.out]
                exact hown6
              have HN7 : Hid (∀ r, (Value.slice p6' (m + 1) c6').ownBlock = some r → ¬ (r < W5.heap.size ∧ some r ≠ (Value.slice qa t ca).ownBlock)) := fun r hr => by
                rcases hat6 with e | e
                · exact HN6.out r (e ▸ hr)
                · rw [e] at hr
                  simp at hr
                  intro h
                  omega
              have HK6 : Hid (Kp (fun k => k < W5.heap.size ∧ some k ≠ (Value.slice qa t ca).ownBlock) W5 w6) := HKD.out.trans ((Kp.of_up (Up.alloc _ _)).trans (grown_kp hgrow6 HN6.out))
              clear hown6 hgrow6 hnil6 hat6 hown
              go_wp2
              go_roundw
              case rel => exact ⟨s + 1, m + 1, c6', p6', _, by omega, by go_num, rfl, by omega, by show _ = _; rw [List.length_append, HDL.out]; rfl, HS6, HN7, HK6⟩
              case measure => simp [intOf]; omega
            · obtain rfl : s = 9 := by omega
              have HUW6 : Hid (Up W wr3) := HUW5.out.trans2 HKD.out (fun k hk => by
                have h1 := HS12.out
                refine ⟨by omega, fun e => ?_⟩
                have := (HAL.out k e.symm).1
                omega)
              have HSB6 : Hid (SO w1.heap.size wr3 (.slice qb t cb) (highF D i)) := owns_kp HSB5.out HKD.out (fun r hr => by
                have h1 := HBL.out r hr
                have h2 := HS12.out
                refine ⟨by omega, fun e => ?_⟩
                have := (HAL.out r e.symm).2
                omega)
              have HSW6 : Hid (SO w2.heap.size wr3 (.slice qw t cw) (highF D i)) := owns_kp HSW5.out HKD.out (fun r hr => by
                have h1 := HWL.out r hr
                have h2 := HS12.out
                refine ⟨by omega, fun e => ?_⟩
                have := (HAL.out r e.symm).2
                omega)
              have HT6 : Hid (TI w D i (.slice q i c) gf cf wr3) := HT.out.up' HUW6.out
              have hmk : eqF (ab 9094988921128908188) (ab 9094988921128908188) = true := by decide +kernel
              clear HKD HSD HN6 HDL HSB5 HSW5 HAL HBL HWL HF2
              go_wp2
              go_loopw [11] (fun v11 wr7 => ∃ k : Nat, k ≤ i ∧ v11 = .int .i64 k ∧ Hid (Up wr3 wr7)) (fun v11 _ => i - (intOf v11).toNat)
              case atStart => exact ⟨0, by omega, rfl, Up.refl _⟩
              case round =>
                obtain ⟨k, hk, rfl, HU7⟩ := hrel
                rename World => wr7
                by_cases hlk : k < i
                · obtain ⟨mb, mo, hpe, hr⟩ := H.out.rd (by omega)
                  subst hpe
                  obtain ⟨q1, c1, k1, -⟩ := hr k hlk
                  have HT7 := HT6.out.up' HU7.out
                  obtain ⟨nb, no, hpe2, hr2⟩ := (HT7.mv (by omega) (fun j hj => by have := HD.out j hj; omega) HF.out).rd (by omega)
                  subst hpe2
                  have hO : OR (fun v : Value => v) 23 w.heap.size wr7 (.slice (some ⟨nb, no, none⟩) i c) ((List.range i).map fun j => .slice (some ⟨gf j, 0, none⟩) (D j).size (cf j)) := by
                    unfold OR
                    rw [List.length_map, List.length_range, List.map_map]
                    exact HT7.own
                  obtain ⟨_, _, hv, hg⟩ := own_form HT7.own
                  obtain ⟨g0, hg0⟩ := hg (by omega)
                  simp only [Value.slice.injEq] at hv
                  obtain ⟨e1, -, -⟩ := hv
                  rw [← e1] at hg0
                  simp only [Option.some.injEq, Addr.mk.injEq] at hg0
                  obtain ⟨rfl, rfl, -⟩ := hg0
                  have cin := hO.cell (i := k) (by simpa using hlk)
                  have e : ((List.range i).map fun j => Value.slice (some ⟨gf j, 0, none⟩) (D j).size (cf j))[k]! = .slice (some ⟨gf k, 0, none⟩) (D k).size (cf k) := by
                    rw [getElem!_pos _ k (by simpa using hlk)]; simp
                  rw [e] at cin
                  obtain ⟨-, cmk, ccap⟩ := row_reads rfl (HT7.rows k hlk)
                  have cm := cell_up k1 (HT.out.up.trans (HUW6.out.trans HU7.out))
                  have hzd := HD.out k hlk
                  obtain ⟨z, hz⟩ : ∃ z, (D k).size = z := ⟨_, rfl⟩
                  rw [hz] at cin cmk ccap cm hzd
                  have cin2 : wr7.cell? ⟨nb, 0 + k, none⟩ = some (.slice (some ⟨gf k, 0, none⟩) z (cf k)) := by rw [Nat.zero_add]; exact cin
                  clear hr hr2 hO hg e1 e k1 HT7 hz
                  generalize gf k = gk at *
                  generalize cf k = ck at *
                  have x1 : (k : Int) < (i : Int) := by omega
                  have x2 : (0 : Int) ≤ (k : Int) := by omega
                  have x3 : (z : Int) + 1 ≤ (ck : Int) := by omega
                  have x4 : (z : Int) < (z : Int) + 1 := by omega
                  have x5 : (0 : Int) ≤ (z : Int) + 1 := by omega
                  go_wp2_with fail
                  go_quiet (fail)
                  go_wp2
                  go_roundw
                  case rel => exact ⟨k + 1, by omega, by go_num, HU7.out.trans (Up.drewN _ _)⟩
                  case measure => simp [intOf]; omega
                · obtain rfl : k = i := by omega
                  have C11 : Hid (Calls Try.prog 11 #[.slice qb t cb, .slice qw t cw] wr7 fun e w' => e = .returned (.bool true) ∧ ∃ j, w' = wr7.drewN j) := t11 (so_view (HSB6.out.up HU7.out) HML.out hMb HOKS.out) (so_view (HSW6.out.up HU7.out) HML.out hMb HOKS.out)
                  have C12 : Hid (∀ j, Calls Try.prog 12 #[.slice q k c, .slice p k cap] (wr7.drewN j) fun e w' => e = .returned (.bool true) ∧ ∃ j', w' = (wr7.drewN j).drewN j') := fun j => t12 (HIN.out.up (HUW6.out.trans (HU7.out.trans (Up.drewN _ _)))) (H.out.up (HT.out.up.trans (HUW6.out.trans (HU7.out.trans (Up.drewN _ _)))))
                  have hlen : ((m : Int) == (t : Int) + 9) = true := by rw [beq_iff_eq]; omega
                  go_wp2_with (first
                    | (go_at_call 11; (with_reducible refine C11.out.mono ?_); rintro e w8 ⟨rfl, j8, hw⟩; subst w8)
                    | (go_at_call 12; (with_reducible refine (C12.out _).mono ?_); rintro e w9 ⟨rfl, j9, hw⟩; subst w9)
                    | (go_at_call 13; (with_reducible refine (C13.out _).mono ?_); rintro e w10 ⟨rfl, HU10⟩))
                  go_ret
                  exact ⟨rfl, (HT.out.up.trans (HUW6.out.trans (HU7.out.trans (Up.drewN _ _)))).trans HU10.out⟩
end Go.Proofs.Ytephkmahnbhmbaa

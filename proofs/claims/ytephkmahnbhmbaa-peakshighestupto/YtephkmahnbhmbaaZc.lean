/- PeaksHighest: maps that are the same, rows lent. -/
import Derived.Test.YtephkmahnbhmbaaZb
import Derived.Test.YtephkmahnbhmbaaVa
namespace Go.Proofs.Ytephkmahnbhmbaa
open Go.ChangeShapes Go.WideShapes Go.ChangeAt Go.RowKit Go.Fl Go.Sort
attribute [local go_sem] run_store_float call52 run_neg fold_eq fold_ne fold_lt fold_gt abs_eq
set_option maxRecDepth 20000
/-- Two lists of floats that hold the same. -/
theorem t33 {w : World} {p p' : Option Addr} {n c c' : Nat} {d : Array Nat} (h : SV w p n c d) (h' : SV w p' n c' d) (hn : n ≤ 1152921504606846976) : Calls Try.prog 33 #[.slice p n c, .slice p' n c'] w fun e w' => e = .returned (.bool true) ∧ ∃ k, w' = w.drewN k := by
  have H : Hid (SV w p n c d) := h
  have H' : Hid (SV w p' n c' d) := h'
  clear h h'
  go_enter Try.func33, Try.ntmps33
  go_wp2
  go_loopw [5, 6] (fun vi _ wr => ∃ i : Nat, i ≤ n ∧ vi = .int .i64 i ∧ Hid (∃ k, wr = w.drewN k)) (fun vi _ _ => n - (intOf vi).toNat)
  case atStart => exact ⟨0, by omega, rfl, 0, rfl⟩
  case round =>
    obtain ⟨i, hi, rfl, hw⟩ := hrel
    obtain ⟨k, rfl⟩ := hw.out
    by_cases hlt : i < n
    · obtain ⟨b, o, rfl, hr⟩ := H.out.rd (by omega)
      obtain ⟨b', o', rfl, hr'⟩ := H'.out.rd (by omega)
      have x0 : (w.drewN k).cell? ⟨b, o + i, none⟩ = _ := hr i (by rw [H.out.len]; exact hlt)
      have y0 : (w.drewN k).cell? ⟨b', o' + i, none⟩ = _ := hr' i (by rw [H.out.len]; exact hlt)
      obtain ⟨s, hs⟩ : ∃ s, d[i]! = s := ⟨_, rfl⟩
      rw [hs] at x0 y0
      clear hr hr' hs
      have z1 : (i : Int) < (n : Int) := by omega
      have z2 : (0 : Int) ≤ (i : Int) := by omega
      have C20 : Hid (∀ w, Calls Try.prog 20 #[.float .f64 s, .float .f64 s] w fun e w' => e = .returned (.bool true) ∧ w' = w) := fun w => by
        have := t20 s s w
        rwa [beq_self_eq_true] at this
      generalize w.drewN k = wr at *
      go_wp2_with fail
      go_quiet (first | (go_at_call 20; refine Calls.quiet_of_same (C20.out _)))
      go_wp2
      go_roundw
      case rel =>
        obtain ⟨k2, hk2⟩ := hw.out
        exact ⟨i + 1, by omega, by go_num, k2 + nq, by rw [hk2, World.drewN_drewN]⟩
      case measure => simp [intOf]; omega
    · obtain rfl : i = n := by omega
      go_wp2
      go_ret
      exact ⟨rfl, k, rfl⟩
/-- Two maps that hold the same. -/
theorem t12 {w : World} {p p' : Option Addr} {n c c' : Nat} {D : Nat → Array Nat} (h : MV w p n c D) (h' : MV w p' n c' D) : Calls Try.prog 12 #[.slice p n c, .slice p' n c'] w fun e w' => e = .returned (.bool true) ∧ ∃ k, w' = w.drewN k := by
  have hf := h.few
  have H : Hid (MV w p n c D) := h
  have H' : Hid (MV w p' n c' D) := h'
  clear h h'
  go_enter Try.func12, Try.ntmps12
  go_wp2
  go_loopw [5, 6] (fun vi _ wr => ∃ i : Nat, i ≤ n ∧ vi = .int .i64 i ∧ Hid (∃ k, wr = w.drewN k)) (fun vi _ _ => n - (intOf vi).toNat)
  case atStart => exact ⟨0, by omega, rfl, 0, rfl⟩
  case round =>
    obtain ⟨i, hi, rfl, hw⟩ := hrel
    obtain ⟨k, rfl⟩ := hw.out
    by_cases hlt : i < n
    · obtain ⟨b, o, rfl, hr⟩ := H.out.rd (by omega)
      obtain ⟨b', o', rfl, hr'⟩ := H'.out.rd (by omega)
      obtain ⟨q, c1, x0, s0⟩ := hr i hlt
      obtain ⟨q', c1', y0, s0'⟩ := hr' i hlt
      have x0 : (w.drewN k).cell? ⟨b, o + i, none⟩ = _ := x0
      have y0 : (w.drewN k).cell? ⟨b', o' + i, none⟩ = _ := y0
      have hsm := H.out.small i hlt
      have C33 : Hid (∀ m, Calls Try.prog 33 #[.slice q (D i).size c1, .slice q' (D i).size c1'] ((w.drewN k).drewN m) fun e w' => e = .returned (.bool true) ∧ ∃ j, w' = ((w.drewN k).drewN m).drewN j) := fun m => t33 (s0.up ((Up.drewN _ _).trans (Up.drewN _ _))) (s0'.up ((Up.drewN _ _).trans (Up.drewN _ _))) hsm
      generalize (D i).size = z at *
      clear hr hr' s0 s0'
      have z1 : (i : Int) < (n : Int) := by omega
      have z2 : (0 : Int) ≤ (i : Int) := by omega
      generalize w.drewN k = wr at *
      go_wp2_with fail
      go_quiet (first | (go_at_call 33; refine Calls.quiet_of (C33.out _)))
      go_wp2
      go_roundw
      case rel =>
        obtain ⟨k2, hk2⟩ := hw.out
        exact ⟨i + 1, by omega, by go_num, k2 + nq, by rw [hk2, World.drewN_drewN]⟩
      case measure => simp [intOf]; omega
    · obtain rfl : i = n := by omega
      go_wp2
      go_ret
      exact ⟨rfl, k, rfl⟩
/-- A row of floats appended to one's own, up to a great length. -/
theorem app_svL {w : World} {base m c ty : Nat} {p q : Option Addr} {n cq : Nat} {O : List Nat} {d : Array Nat} (hown : w.ownsRow base 24 1 (.slice p m c) m (O.map fe)) (hv : SV w q n cq d) (hmn : m + n ≤ 1099511627776) (hbase : base ≤ w.heap.size) :
    ∃ p' c' w', (Builtin.append_ #[23, 23] ty #[.slice p m c, .slice q n cq]).run Try.prog w = .ok (.slice p' (m + n) c') w' ∧ w'.ownsRow base 24 1 (.slice p' (m + n) c') (m + n) ((O ++ d.toList).map fe) ∧ w.grownBy w' (Value.slice p m c).ownBlock := by
  obtain ⟨i0, hi, hz0, hz1, hz2⟩ := info_parts info23
  have hmc : m ≤ c := by
    rcases hown.2 with ⟨e, h0⟩ | ⟨g, c0, cur, e, _, _, h4, _⟩
    · simp only [Value.slice.injEq] at e; omega
    · simp only [Value.slice.injEq] at e; omega
  rcases Nat.eq_zero_or_pos n with rfl | hp
  · have hd : d.toList = [] := by have := hv.len; simpa using this
    refine ⟨p, c, w, ?_, ?_, World.grownBy.refl _ _⟩
    · refine run_append_nothing w 23 23 ty 24 i0 Try.underlying23 hi _ m c hmc _ ?_
      cases q with
      | none => exact Src.ofNil w Try.underlying23 cq
      | some a => exact Src.ofSlice w Try.underlying23 a 0 cq [] (by simp) (fun j u h => by simp at h) (fun u h => by cases h)
    · rw [hd, List.append_nil]; exact hown
  · obtain ⟨b, o, rfl, hr⟩ := hv.rd hp
    obtain ⟨g, cap, w', h1, h2, h3, h4, _⟩ := run_append_lies (P := Try.prog) w 23 ty base 24 i0 (.float .f64 0) 1 8 Try.underlying23 hi hz0 hz1 hz2 rfl (by omega) (.slice p m c) m (O.map fe) hown ⟨b, o, none⟩ n cq (d.toList.map fe) (by simp [hv.len]) (reads_news hr) (one_cells _) hp (by unfold maxLen; omega) (by omega) hbase w.heap.size rfl
    exact ⟨_, cap, w', h1, by rw [List.map_append]; exact h2, h3⟩
theorem wpList_app_svL {ops : Array Oper} {rest : List Oper} {o : Oper} {a : Act} {w : World} {Q : Exit → Act → World → Prop} (hgd : o.guard = none) (s x : Operand)
    (ho : o.op = .call { callee := .builtin .append, args := #[s, x], argTypes := #[23, 23] })
    (base m c : Nat) (p q : Option Addr) (n cq : Nat) (O : List Nat) (d : Array Nat) (hs : a.eval s = .slice p m c) (hx : a.eval x = .slice q n cq) (hown : w.ownsRow base 24 1 (.slice p m c) m (O.map fe)) (hv : SV w q n cq d) (hmn : m + n ≤ 1099511627776) (hbase : base ≤ w.heap.size)
    (h : ∀ p' c' w', w'.ownsRow base 24 1 (.slice p' (m + n) c') (m + n) ((O ++ d.toList).map fe) → w.grownBy w' (Value.slice p m c).ownBlock → wpList Try.prog ops Q rest (a.put o.dst (.slice p' (m + n) c')) w') : wpList Try.prog ops Q (o :: rest) a w := by
  refine wpList_plain hgd fun K hK => ?_
  obtain ⟨p', c', w', h1, h2, h3⟩ := app_svL (ty := o.type) hown hv hmn hbase
  unfold Oper.wp execOp
  simp only [ho, resolve, invoke, builtin, Sem.run_bind, Sem.run_pure, Result.andThen_ok, List.map_toArray, List.map_cons, List.map_nil, hs, hx, h1]
  exact hK _ _ (h p' c' w' h2 h3)
/-- A row of spots told by its list can be read. -/
theorem so_view {b n c : Nat} {w : World} {p : Option Addr} {L : List Spt} (h : SO b w (.slice p n c) L) (hl : L.length = n) (hn : n ≤ 1000000000000) (hw : ∀ s ∈ L, Wf s ∧ s.2.2 < 18446744073709551616) : SpV w p n c L.toArray := by
  have hm : ∀ i, i < n → L.toArray[i]! ∈ L := fun i hi => by
    have e : L.toArray[i]! = L[i]! := by simp
    rw [e, getElem!_pos L i (by omega)]
    exact List.getElem_mem _
  refine ⟨by simpa using hl, ?_, by omega, fun i hi => (hw _ (hm i hi)).1, fun i hi => (hw _ (hm i hi)).2, fun hp => ?_⟩
  · rcases h.2 with ⟨e, h0⟩ | ⟨g, c0, cur, e, _, _, h4, _⟩
    · simp only [Value.slice.injEq] at e; omega
    · simp only [Value.slice.injEq] at e; omega
  · obtain ⟨r, rfl, hor, _, _⟩ := so_row h (by omega)
    refine ⟨r, 0, rfl, fun i hi => ?_⟩
    have hc := (hor.cell (i := i) (by simp; omega)).1
    simpa using hc
theorem high_ok {D : Nat → Array Nat} {n : Nat} (hn : n ≤ 1152921504606846976) (hs : ∀ i, i < n → (D i).size ≤ 1152921504606846976) (hF : ∀ i, i < n → Fit (D i)) : ∀ s ∈ highF D n, Wf s ∧ s.2.2 < 18446744073709551616 := by
  intro s h
  obtain ⟨b, g, hb, hg, _, rfl⟩ := mem_high.1 h
  have h1 := short_le (D := D) hb
  have h2 := hs b hb
  have h3 := hF b hb g (by omega)
  exact ⟨⟨⟨by show (-9223372036854775808 : Int) ≤ (b : Int); omega, by show (b : Int) ≤ 9223372036854775807; omega⟩, by show (-9223372036854775808 : Int) ≤ (g : Int); omega, by show (g : Int) ≤ 9223372036854775807; omega⟩, h3⟩
/-- The first number of a spot laid anew. -/
theorem OwnR.bin {w : World} {g cap : Nat} {d : Array Spt} (h : OwnR w g cap d) {k : Nat} (hk : k < d.size) (z : Int) : OwnR (w.setCell ⟨g, k * 3, none⟩ (.int .i64 z)) g cap (d.set! k (z, (d[k]!).2)) := by
  obtain ⟨cur, h1, h2, h3⟩ := h.ex
  have hle := h.le
  refine ⟨⟨_, row_setCells [.int .i64 z] (k * 3) w cur h1, by rw [size_setMany]; exact h2, fun i hi => ?_⟩, by simpa using hle, h.most⟩
  have hi' : i < d.size := by simpa using hi
  rw [get_many (by omega), get_many (by omega), get_many (by omega)]
  simp only [List.length_singleton]
  by_cases hik : i = k
  · subst hik
    have e : (d.set! i (z, (d[i]!).2))[i]! = (z, (d[i]!).2) := by simp [Array.set!, hk]
    rw [e, if_pos (by omega), if_neg (by omega), if_neg (by omega), show i * 3 - i * 3 = 0 by omega]
    exact ⟨rfl, (h3 i hi').2.1, (h3 i hi').2.2⟩
  · have e : (d.set! k (z, (d[k]!).2))[i]! = d[i]! := by
      show (d.setIfInBounds k _)[i]! = _
      rw [getElem!_pos _ i (by simpa using hi'), getElem!_pos d i hi', Array.getElem_setIfInBounds_ne (by simpa using hi') (Ne.symm hik)]
    rw [e, if_neg (by omega), if_neg (by omega), if_neg (by omega)]
    exact h3 i hi'
/-- The mark. -/
abbrev mk300 : Nat := 9094988921128908188
/-- Rows lent, each with a mark behind its end, and their list. -/
structure TI (w : World) (D : Nat → Array Nat) (i : Nat) (v : Value) (gf cf : Nat → Nat) (wr : World) : Prop where
  up : Up w wr
  own : wr.ownsRow w.heap.size 23 1 v i ((List.range i).map fun j => .slice (some ⟨gf j, 0, none⟩) (D j).size (cf j))
  rows : ∀ j, j < i → wr.ownsRow w.heap.size 24 1 (.slice (some ⟨gf j, 0, none⟩) ((D j).size + 1) (cf j)) ((D j).size + 1) (((D j).toList ++ [mk300]).map fe)
theorem TI.start (w : World) (D : Nat → Array Nat) : TI w D 0 (.slice none 0 0) (fun _ => 0) (fun _ => 0) w := ⟨Up.refl _, World.ownsRow_nil _ _ _ _, fun j hj => by omega⟩
theorem TI.up' {w : World} {D : Nat → Array Nat} {i : Nat} {v : Value} {gf cf : Nat → Nat} {wr W : World} (h : TI w D i v gf cf wr) (hu : Up wr W) : TI w D i v gf cf W := ⟨h.up.trans hu, owns_up h.own hu, fun j hj => owns_up (h.rows j hj) hu⟩
theorem TI.next {w : World} {D : Nat → Array Nat} {i r cr : Nat} {v v' : Value} {gf cf : Nat → Nat} {wr w3 : World} {o : Obj} (h : TI w D i v gf cf wr) (hrow : wr.ownsRow w.heap.size 24 1 (.slice (some ⟨r, 0, none⟩) ((D i).size + 1) cr) ((D i).size + 1) (((D i).toList ++ [mk300]).map fe))
    (hown : w3.ownsRow w.heap.size 23 1 v' (i + 1) (((List.range i).map fun j => .slice (some ⟨gf j, 0, none⟩) (D j).size (cf j)) ++ [.slice (some ⟨r, 0, none⟩) (D i).size cr])) (hg : (wr.alloc o).grownBy w3 v.ownBlock) :
    TI w D (i + 1) v' (fun j => if j < i then gf j else r) (fun j => if j < i then cf j else cr) w3 := by
  have hv : (wr.alloc o).ownsRow w.heap.size 23 1 v i ((List.range i).map fun j => .slice (some ⟨gf j, 0, none⟩) (D j).size (cf j)) := owns_up h.own (Up.alloc _ _)
  refine ⟨grown_up (h.up.trans (Up.alloc _ _)) hg (fun j hj => (h.own.lt j hj).1), ?_, fun j hj => ?_⟩
  · have e : ((List.range (i + 1)).map fun j => Value.slice (some ⟨if j < i then gf j else r, 0, none⟩) (D j).size (if j < i then cf j else cr)) = ((List.range i).map fun j => .slice (some ⟨gf j, 0, none⟩) (D j).size (cf j)) ++ [.slice (some ⟨r, 0, none⟩) (D i).size cr] := by
      rw [List.range_succ, List.map_append]
      congr 1
      · refine List.map_congr_left fun j hj => ?_
        have := List.mem_range.1 hj
        rw [if_pos this, if_pos this]
      · simp
    rw [e]; exact hown
  · by_cases q : j < i
    · simp only [if_pos q]
      have h1 : (wr.alloc o).ownsRow w.heap.size 24 1 _ _ _ := owns_up (h.rows j q) (Up.alloc _ _)
      exact owns_grown h1 hg (fun g hg' => kinds_apart hv h1 (by decide) hg')
    · obtain rfl : j = i := by omega
      simp only [if_neg q]
      have h1 : (wr.alloc o).ownsRow w.heap.size 24 1 _ _ _ := owns_up hrow (Up.alloc _ _)
      exact owns_grown h1 hg (fun g hg' => kinds_apart hv h1 (by decide) hg')
theorem row_reads {w : World} {b r z c : Nat} {d : Array Nat} (hz : d.size = z) (h : w.ownsRow b 24 1 (.slice (some ⟨r, 0, none⟩) (z + 1) c) (z + 1) ((d.toList ++ [mk300]).map fe)) : (∀ k, k < z → w.cell? ⟨r, k, none⟩ = some (.float .f64 d[k]!)) ∧ w.cell? ⟨r, z, none⟩ = some (.float .f64 mk300) ∧ z + 1 ≤ c := by
  subst hz
  have hO : Own b w (.slice (some ⟨r, 0, none⟩) (d.size + 1) c) (d.toList ++ [mk300]).toArray := own_list (by simp) (by simpa using h)
  obtain ⟨g, c0, e, _, hle, hr⟩ := own_reads hO
  simp only [Value.slice.injEq, Option.some.injEq, Addr.mk.injEq] at e
  obtain ⟨⟨rfl, _⟩, _, rfl⟩ := e
  refine ⟨fun k hk => ?_, ?_, by simpa using hle⟩
  · have := hr k (by simp; omega)
    rw [Nat.zero_add] at this
    rw [this]
    congr 2
    rw [getElem!_pos _ k (by simp; omega), getElem!_pos d k hk]
    simp [List.getElem_append_left, hk]
  · have := hr d.size (by simp)
    rw [Nat.zero_add] at this
    rw [this]
    congr 2
    rw [getElem!_pos _ d.size (by simp)]
    simp
theorem TI.mv {w : World} {D : Nat → Array Nat} {n c : Nat} {q : Option Addr} {gf cf : Nat → Nat} {wr : World} (h : TI w D n (.slice q n c) gf cf wr) (hn : n ≤ 1152921504606846976) (hs : ∀ i, i < n → (D i).size ≤ 1152921504606846976) (hF : ∀ i, i < n → Fit (D i)) : MV wr q n c D := by
  have hO : OR (fun v : Value => v) 23 w.heap.size wr (.slice q n c) ((List.range n).map fun j => .slice (some ⟨gf j, 0, none⟩) (D j).size (cf j)) := by
    unfold OR
    rw [List.length_map, List.length_range, List.map_map]
    exact h.own
  refine ⟨?_, fun hp => ?_, hs, hn⟩
  · rcases h.own.2 with ⟨e, h0⟩ | ⟨g, c0, cur, e, _, _, h4, _⟩
    · simp only [Value.slice.injEq] at e; omega
    · simp only [Value.slice.injEq] at e; omega
  · obtain ⟨p', c', hv, hg⟩ := own_form h.own
    obtain ⟨g, rfl⟩ := hg hp
    simp only [Value.slice.injEq] at hv
    obtain ⟨rfl, _, rfl⟩ := hv
    refine ⟨g, 0, rfl, fun i hi => ?_⟩
    have hc := hO.cell (i := i) (by simpa using hi)
    have e : ((List.range n).map fun j => Value.slice (some ⟨gf j, 0, none⟩) (D j).size (cf j))[i]! = .slice (some ⟨gf i, 0, none⟩) (D i).size (cf i) := by
      rw [getElem!_pos _ i (by simpa using hi)]; simp
    rw [e] at hc
    obtain ⟨r1, _, r3⟩ := row_reads rfl (h.rows i hi)
    refine ⟨some ⟨gf i, 0, none⟩, cf i, by rw [Nat.zero_add]; exact hc, ⟨rfl, by omega, hF i hi, fun _ => ⟨gf i, 0, rfl, fun k hk => by rw [Nat.zero_add]; exact r1 k hk⟩⟩⟩
end Go.Proofs.Ytephkmahnbhmbaa

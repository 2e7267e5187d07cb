/- PeaksHighest: maps that are the same, rows lent. -/
import Derived.Test.YtephkmahnbhmbaaVh
import Derived.Test.YtephkmahnbhmbaaVa
import Derived.Test.YtephkmahnbhmbaaYf
import Derived.Test.YtephkmahnbhmbaaWa
namespace Go.Proofs.Ytephkmahnbhmbaa
open Go.ChangeShapes Go.WideShapes Go.ChangeAt Go.RowKit Go.Fl Go.Sort
attribute [local go_sem] run_store_float call52 run_neg fold_eq fold_ne fold_lt fold_gt abs_eq
set_option maxRecDepth 20000
/-- Two lists of floats that hold the same. -/
theorem t33 {w : World} {p p' : Option Addr} {n c c' : Nat} {d : Array Nat} (h : SV w p n c d) (h' : SV w p' n c' d) (hn : n ≤ 1152921504606846976) : Calls Try.prog 33 #[.slice p n c, .slice p' n c'] w fun e w' => e = .returned (.bool true) ∧ ∃ k, w' = w.drewN k := by
  have H : Hid (SV w p n c d) := h
  have H' : Hid (SV w p' n c' d) := h'
  clear h h'
  go_enter Try.func33, Try.ntmps33
  go_wp2
  go_loopw [5, 6] (fun vi _ wr => ∃ i : Nat, i ≤ n ∧ vi = .int .i64 i ∧ Hid (∃ k, wr = w.drewN k)) (fun vi _ _ => n - (intOf vi).toNat)
  case atStart => exact ⟨0, by omega, rfl, 0, rfl⟩
  case round =>
    obtain ⟨i, hi, rfl, hw⟩ := hrel
    obtain ⟨k, rfl⟩ := hw.out
    by_cases hlt : i < n
    · obtain ⟨b, o, rfl, hr⟩ := H.out.rd (by omega)
      obtain ⟨b', o', rfl, hr'⟩ := H'.out.rd (by omega)
      have x0 : (w.drewN k).cell? ⟨b, o + i, none⟩ = _ := hr i (by rw [H.out.len]; exact hlt)
      have y0 : (w.drewN k).cell? ⟨b', o' + i, none⟩ = _ := hr' i (by rw [H.out.len]; exact hlt)
      obtain ⟨s, hs⟩ : ∃ s, d[i]! = s := ⟨_, rfl⟩
      rw [hs] at x0 y0
      clear hr hr' hs
      have z1 : (i : Int) < (n : Int) := by omega
      have z2 : (0 : Int) ≤ (i : Int) := by omega
      have C20 : Hid (∀ w, Calls Try.prog 20 #[.float .f64 s, .float .f64 s] w fun e w' => e = .returned (.bool true) ∧ w' = w) := fun w => by
        have := t20 s s w
        rwa [beq_self_eq_true] at this
      generalize w.drewN k = wr at *
      go_wp2_with fail
      go_quiet (first | (go_at_call 20; refine Calls.quiet_of_same (C20.out _)))
      go_wp2
      go_roundw
      case rel =>
        obtain ⟨k2, hk2⟩ := hw.out
        exact ⟨i + 1, by omega, by go_num, k2 + nq, by rw [hk2, World.drewN_drewN]⟩
      case measure => simp [intOf]; omega
    · obtain rfl : i = n := by omega
      go_wp2
      go_ret
      exact ⟨rfl, k, rfl⟩
/-- Two maps that hold the same. -/
theorem t12 {w : World} {p p' : Option Addr} {n c c' : Nat} {D : Nat → Array Nat} (h : MV w p n c D) (h' : MV w p' n c' D) : Calls Try.prog 12 #[.slice p n c, .slice p' n c'] w fun e w' => e = .returned (.bool true) ∧ ∃ k, w' = w.drewN k := by
  have hf := h.few
  have H : Hid (MV w p n c D) := h
  have H' : Hid (MV w p' n c' D) := h'
  clear h h'
  go_enter Try.func12, Try.ntmps12
  go_wp2
  go_loopw [5, 6] (fun vi _ wr => ∃ i : Nat, i ≤ n ∧ vi = .int .i64 i ∧ Hid (∃ k, wr = w.drewN k)) (fun vi _ _ => n - (intOf vi).toNat)
  case atStart => exact ⟨0, by omega, rfl, 0, rfl⟩
  case round =>
    obtain ⟨i, hi, rfl, hw⟩ := hrel
    obtain ⟨k, rfl⟩ := hw.out
    by_cases hlt : i < n
    · obtain ⟨b, o, rfl, hr⟩ := H.out.rd (by omega)
      obtain ⟨b', o', rfl, hr'⟩ := H'.out.rd (by omega)
      obtain ⟨q, c1, x0, s0⟩ := hr i hlt
      obtain ⟨q', c1', y0, s0'⟩ := hr' i hlt
      have x0 : (w.drewN k).cell? ⟨b, o + i, none⟩ = _ := x0
      have y0 : (w.drewN k).cell? ⟨b', o' + i, none⟩ = _ := y0
      have hsm := H.out.small i hlt
      have C33 : Hid (∀ m, Calls Try.prog 33 #[.slice q (D i).size c1, .slice q' (D i).size c1'] ((w.drewN k).drewN m) fun e w' => e = .returned (.bool true) ∧ ∃ j, w' = ((w.drewN k).drewN m).drewN j) := fun m => t33 (s0.up ((Up.drewN _ _).trans (Up.drewN _ _))) (s0'.up ((Up.drewN _ _).trans (Up.drewN _ _))) hsm
      generalize (D i).size = z at *
      clear hr hr' s0 s0'
      have z1 : (i : Int) < (n : Int) := by omega
      have z2 : (0 : Int) ≤ (i : Int) := by omega
      generalize w.drewN k = wr at *
      go_wp2_with fail
      go_quiet (first | (go_at_call 33; refine Calls.quiet_of (C33.out _)))
      go_wp2
      go_roundw
      case rel =>
        obtain ⟨k2, hk2⟩ := hw.out
        exact ⟨i + 1, by omega, by go_num, k2 + nq, by rw [hk2, World.drewN_drewN]⟩
      case measure => simp [intOf]; omega
    · obtain rfl : i = n := by omega
      go_wp2
      go_ret
      exact ⟨rfl, k, rfl⟩
/-- A row of floats appended to one's own, up to a great length. -/
theorem app_svL {w : World} {base m c ty : Nat} {p q : Option Addr} {n cq : Nat} {O : List Nat} {d : Array Nat} (hown : w.ownsRow base 24 1 (.slice p m c) m (O.map fe)) (hv : SV w q n cq d) (hmn : m + n ≤ 1099511627776) (hbase : base ≤ w.heap.size) :
    ∃ p' c' w', (Builtin.append_ #[23, 23] ty #[.slice p m c, .slice q n cq]).run Try.prog w = .ok (.slice p' (m + n) c') w' ∧ w'.ownsRow base 24 1 (.slice p' (m + n) c') (m + n) ((O ++ d.toList).map fe) ∧ w.grownBy w' (Value.slice p m c).ownBlock := by
  obtain ⟨i0, hi, hz0, hz1, hz2⟩ := info_parts info23
  have hmc : m ≤ c := by
    rcases hown.2 with ⟨e, h0⟩ | ⟨g, c0, cur, e, _, _, h4, _⟩
    · simp only [Value.slice.injEq] at e; omega
    · simp only [Value.slice.injEq] at e; omega
  rcases Nat.eq_zero_or_pos n with rfl | hp
  · have hd : d.toList = [] := by have := hv.len; simpa using this
    refine ⟨p, c, w, ?_, ?_, World.grownBy.refl _ _⟩
    · refine run_append_nothing w 23 23 ty 24 i0 Try.underlying23 hi _ m c hmc _ ?_
      cases q with
      | none => exact Src.ofNil w Try.underlying23 cq
      | some a => exact Src.ofSlice w Try.underlying23 a 0 cq [] (by simp) (fun j u h => by simp at h) (fun u h => by cases h)
    · rw [hd, List.append_nil]; exact hown
  · obtain ⟨b, o, rfl, hr⟩ := hv.rd hp
    obtain ⟨g, cap, w', h1, h2, h3, h4, _⟩ := run_append_lies (P := Try.prog) w 23 ty base 24 i0 (.float .f64 0) 1 8 Try.underlying23 hi hz0 hz1 hz2 rfl (by omega) (.slice p m c) m (O.map fe) hown ⟨b, o, none⟩ n cq (d.toList.map fe) (by simp [hv.len]) (reads_news hr) (one_cells _) hp (by unfold maxLen; omega) (by omega) hbase w.heap.size rfl
    exact ⟨_, cap, w', h1, by rw [List.map_append]; exact h2, h3⟩
theorem wpList_app_svL {ops : Array Oper} {rest : List Oper} {o : Oper} {a : Act} {w : World} {Q : Exit → Act → World → Prop} (hgd : o.guard = none) (s x : Operand)
    (ho : o.op = .call { callee := .builtin .append, args := #[s, x], argTypes := #[23, 23] })
    (base m c : Nat) (p q : Option Addr) (n cq : Nat) (O : List Nat) (d : Array Nat) (hs : a.eval s = .slice p m c) (hx : a.eval x = .slice q n cq) (hown : w.ownsRow base 24 1 (.slice p m c) m (O.map fe)) (hv : SV w q n cq d) (hmn : m + n ≤ 1099511627776) (hbase : base ≤ w.heap.size)
    (h : ∀ p' c' w', w'.ownsRow base 24 1 (.slice p' (m + n) c') (m + n) ((O ++ d.toList).map fe) → w.grownBy w' (Value.slice p m c).ownBlock → wpList Try.prog ops Q rest (a.put o.dst (.slice p' (m + n) c')) w') : wpList Try.prog ops Q (o :: rest) a w := by
  refine wpList_plain hgd fun K hK => ?_
  obtain ⟨p', c', w', h1, h2, h3⟩ := app_svL (ty := o.type) hown hv hmn hbase
  unfold Oper.wp execOp
  simp only [ho, resolve, invoke, builtin, Sem.run_bind, Sem.run_pure, Result.andThen_ok, List.map_toArray, List.map_cons, List.map_nil, hs, hx, h1]
  exact hK _ _ (h p' c' w' h2 h3)
/-- A row of spots told by its list can be read. -/
theorem so_view {b n c : Nat} {w : World} {p : Option Addr} {L : List Spt} (h : SO b w (.slice p n c) L) (hl : L.length = n) (hn : n ≤ 1000000000000) (hw : ∀ s ∈ L, Wf s ∧ s.2.2 < 18446744073709551616) : SpV w p n c L.toArray := by
  have hm : ∀ i, i < n → L.toArray[i]! ∈ L := fun i hi => by
    have e : L.toArray[i]! = L[i]! := by simp
    rw [e, getElem!_pos L i (by omega)]
    exact List.getElem_mem _
  refine ⟨by simpa using hl, ?_, by omega, fun i hi => (hw _ (hm i hi)).1, fun i hi => (hw _ (hm i hi)).2, fun hp => ?_⟩
  · rcases h.2 with ⟨e, h0⟩ | ⟨g, c0, cur, e, _, _, h4, _⟩
    · simp only [Value.slice.injEq] at e; omega
    · simp only [Value.slice.injEq] at e; omega
  · obtain ⟨r, rfl, hor, _, _⟩ := so_row h (by omega)
    refine ⟨r, 0, rfl, fun i hi => ?_⟩
    have hc := (hor.cell (i := i) (by simp; omega)).1
    simpa using hc
theorem high_ok {D : Nat → Array Nat} {n : Nat} (hn : n ≤ 1152921504606846976) (hs : ∀ i, i < n → (D i).size ≤ 1152921504606846976) (hF : ∀ i, i < n → Fit (D i)) : ∀ s ∈ highF D n, Wf s ∧ s.2.2 < 18446744073709551616 := by
  intro s h
  obtain ⟨b, g, hb, hg, _, rfl⟩ := mem_high.1 h
  have h1 := short_le (D := D) hb
  have h2 := hs b hb
  have h3 := hF b hb g (by omega)
  exact ⟨⟨⟨by show (-9223372036854775808 : Int) ≤ (b : Int); omega, by show (b : Int) ≤ 9223372036854775807; omega⟩, by show (-9223372036854775808 : Int) ≤ (g : Int); omega, by show (g : Int) ≤ 9223372036854775807; omega⟩, h3⟩
/-- The first number of a spot laid anew. -/
theorem OwnR.bin {w : World} {g cap : Nat} {d : Array Spt} (h : OwnR w g cap d) {k : Nat} (hk : k < d.size) (z : Int) : OwnR (w.setCell ⟨g, k * 3, none⟩ (.int .i64 z)) g cap (d.set! k (z, (d[k]!).2)) := by
  obtain ⟨cur, h1, h2, h3⟩ := h.ex
  have hle := h.le
  refine ⟨⟨_, row_setCells [.int .i64 z] (k * 3) w cur h1, by rw [size_setMany]; exact h2, fun i hi => ?_⟩, by simpa using hle, h.most⟩
  have hi' : i < d.size := by simpa using hi
  rw [get_many (by omega), get_many (by omega), get_many (by omega)]
  simp only [List.length_singleton]
  by_cases hik : i = k
  · subst hik
    have e : (d.set! i (z, (d[i]!).2))[i]! = (z, (d[i]!).2) := by simp [Array.set!, hk]
    rw [e, if_pos (by omega), if_neg (by omega), if_neg (by omega), show i * 3 - i * 3 = 0 by omega]
    exact ⟨rfl, (h3 i hi').2.1, (h3 i hi').2.2⟩
  · have e : (d.set! k (z, (d[k]!).2))[i]! = d[i]! := by
      show (d.setIfInBounds k _)[i]! = _
      rw [getElem!_pos _ i (by simpa using hi'), getElem!_pos d i hi', Array.getElem_setIfInBounds_ne (by simpa using hi') (Ne.symm hik)]
    rw [e, if_neg (by omega), if_neg (by omega), if_neg (by omega)]
    exact h3 i hi'
/-- The mark. -/
abbrev mk300 : Nat := 9094988921128908188
/-- Rows lent, each with a mark behind its end, and their list. -/
structure TI (w : World) (D : Nat → Array Nat) (i : Nat) (v : Value) (gf cf : Nat → Nat) (wr : World) : Prop where
  up : Up w wr
  own : wr.ownsRow w.heap.size 23 1 v i ((List.range i).map fun j => .slice (some ⟨gf j, 0, none⟩) (D j).size (cf j))
  rows : ∀ j, j < i → wr.ownsRow w.heap.size 24 1 (.slice (some ⟨gf j, 0, none⟩) ((D j).size + 1) (cf j)) ((D j).size + 1) (((D j).toList ++ [mk300]).map fe)
theorem TI.start (w : World) (D : Nat → Array Nat) : TI w D 0 (.slice none 0 0) (fun _ => 0) (fun _ => 0) w := ⟨Up.refl _, World.ownsRow_nil _ _ _ _, fun j hj => by omega⟩
theorem TI.up' {w : World} {D : Nat → Array Nat} {i : Nat} {v : Value} {gf cf : Nat → Nat} {wr W : World} (h : TI w D i v gf cf wr) (hu : Up wr W) : TI w D i v gf cf W := ⟨h.up.trans hu, owns_up h.own hu, fun j hj => owns_up (h.rows j hj) hu⟩
theorem TI.next {w : World} {D : Nat → Array Nat} {i r cr : Nat} {v v' : Value} {gf cf : Nat → Nat} {wr w3 : World} {o : Obj} (h : TI w D i v gf cf wr) (hrow : wr.ownsRow w.heap.size 24 1 (.slice (some ⟨r, 0, none⟩) ((D i).size + 1) cr) ((D i).size + 1) (((D i).toList ++ [mk300]).map fe))
    (hown : w3.ownsRow w.heap.size 23 1 v' (i + 1) (((List.range i).map fun j => .slice (some ⟨gf j, 0, none⟩) (D j).size (cf j)) ++ [.slice (some ⟨r, 0, none⟩) (D i).size cr])) (hg : (wr.alloc o).grownBy w3 v.ownBlock) :
    TI w D (i + 1) v' (fun j => if j < i then gf j else r) (fun j => if j < i then cf j else cr) w3 := by
  have hv : (wr.alloc o).ownsRow w.heap.size 23 1 v i ((List.range i).map fun j => .slice (some ⟨gf j, 0, none⟩) (D j).size (cf j)) := owns_up h.own (Up.alloc _ _)
  refine ⟨grown_up (h.up.trans (Up.alloc _ _)) hg (fun j hj => (h.own.lt j hj).1), ?_, fun j hj => ?_⟩
  · have e : ((List.range (i + 1)).map fun j => Value.slice (some ⟨if j < i then gf j else r, 0, none⟩) (D j).size (if j < i then cf j else cr)) = ((List.range i).map fun j => .slice (some ⟨gf j, 0, none⟩) (D j).size (cf j)) ++ [.slice (some ⟨r, 0, none⟩) (D i).size cr] := by
      rw [List.range_succ, List.map_append]
      congr 1
      · refine List.map_congr_left fun j hj => ?_
        have := List.mem_range.1 hj
        rw [if_pos this, if_pos this]
      · simp
    rw [e]; exact hown
  · by_cases q : j < i
    · simp only [if_pos q]
      have h1 : (wr.alloc o).ownsRow w.heap.size 24 1 _ _ _ := owns_up (h.rows j q) (Up.alloc _ _)
      exact owns_grown h1 hg (fun g hg' => kinds_apart hv h1 (by decide) hg')
    · obtain rfl : j = i := by omega
      simp only [if_neg q]
      have h1 : (wr.alloc o).ownsRow w.heap.size 24 1 _ _ _ := owns_up hrow (Up.alloc _ _)
      exact owns_grown h1 hg (fun g hg' => kinds_apart hv h1 (by decide) hg')
theorem row_reads {w : World} {b r z c : Nat} {d : Array Nat} (hz : d.size = z) (h : w.ownsRow b 24 1 (.slice (some ⟨r, 0, none⟩) (z + 1) c) (z + 1) ((d.toList ++ [mk300]).map fe)) : (∀ k, k < z → w.cell? ⟨r, k, none⟩ = some (.float .f64 d[k]!)) ∧ w.cell? ⟨r, z, none⟩ = some (.float .f64 mk300) ∧ z + 1 ≤ c := by
  subst hz
  have hO : Own b w (.slice (some ⟨r, 0, none⟩) (d.size + 1) c) (d.toList ++ [mk300]).toArray := own_list (by simp) (by simpa using h)
  obtain ⟨g, c0, e, _, hle, hr⟩ := own_reads hO
  simp only [Value.slice.injEq, Option.some.injEq, Addr.mk.injEq] at e
  obtain ⟨⟨rfl, _⟩, _, rfl⟩ := e
  refine ⟨fun k hk => ?_, ?_, by simpa using hle⟩
  · have := hr k (by simp; omega)
    rw [Nat.zero_add] at this
    rw [this]
    congr 2
    rw [getElem!_pos _ k (by simp; omega), getElem!_pos d k hk]
    simp [List.getElem_append_left, hk]
  · have := hr d.size (by simp)
    rw [Nat.zero_add] at this
    rw [this]
    congr 2
    rw [getElem!_pos _ d.size (by simp)]
    simp
theorem TI.mv {w : World} {D : Nat → Array Nat} {n c : Nat} {q : Option Addr} {gf cf : Nat → Nat} {wr : World} (h : TI w D n (.slice q n c) gf cf wr) (hn : n ≤ 1152921504606846976) (hs : ∀ i, i < n → (D i).size ≤ 1152921504606846976) (hF : ∀ i, i < n → Fit (D i)) : MV wr q n c D := by
  have hO : OR (fun v : Value => v) 23 w.heap.size wr (.slice q n c) ((List.range n).map fun j => .slice (some ⟨gf j, 0, none⟩) (D j).size (cf j)) := by
    unfold OR
    rw [List.length_map, List.length_range, List.map_map]
    exact h.own
  refine ⟨?_, fun hp => ?_, hs, hn⟩
  · rcases h.own.2 with ⟨e, h0⟩ | ⟨g, c0, cur, e, _, _, h4, _⟩
    · simp only [Value.slice.injEq] at e; omega
    · simp only [Value.slice.injEq] at e; omega
  · obtain ⟨p', c', hv, hg⟩ := own_form h.own
    obtain ⟨g, rfl⟩ := hg hp
    simp only [Value.slice.injEq] at hv
    obtain ⟨rfl, _, rfl⟩ := hv
    refine ⟨g, 0, rfl, fun i hi => ?_⟩
    have hc := hO.cell (i := i) (by simpa using hi)
    have e : ((List.range n).map fun j => Value.slice (some ⟨gf j, 0, none⟩) (D j).size (cf j))[i]! = .slice (some ⟨gf i, 0, none⟩) (D i).size (cf i) := by
      rw [getElem!_pos _ i (by simpa using hi)]; simp
    rw [e] at hc
    obtain ⟨r1, _, r3⟩ := row_reads rfl (h.rows i hi)
    refine ⟨some ⟨gf i, 0, none⟩, cf i, by rw [Nat.zero_add]; exact hc, ⟨rfl, by omega, hF i hi, fun _ => ⟨gf i, 0, rfl, fun k hk => by rw [Nat.zero_add]; exact r1 k hk⟩⟩⟩
end Go.Proofs.Ytephkmahnbhmbaa
/- PeaksWithin: what its loop keeps. -/
namespace Go.Proofs.Ytephkmahnbhmbaa
open Go.ChangeShapes Go.WideShapes Go.ChangeAt Go.RowKit Go.Fl Go.Sort Ieee
set_option maxRecDepth 20000

theorem run_fl_some {P : Program} (op : BinOp) (t : TypeId) {x y r : Nat} (w : World) (h : bin op (ab x) (ab y) = some r) : (binOp op t (.float .f64 x) (.float .f64 y)).run P w = .ok (.float .f64 r) w :=
  run_float_arith w op t .f64 x y r (by rw [bits_ab]; exact h)
theorem val900 : val 8660422083433463808 = pw 900 := by decide +kernel
theorem pow_in {v : Nat} (h1 : (gtF (ab v) (ab 0) || eqF (ab v) (ab 0)) = true) (h2 : (ltF (ab v) (ab 8660422083433463808) || eqF (ab v) (ab 8660422083433463808)) = true) : Fnt v ∧ 0 ≤ val v ∧ val v ≤ pw 900 := by
  have z : isN 0 = false := by decide +kernel
  have l0 : lin 0 = 0 := by decide +kernel
  have z1 : isN 8660422083433463808 = false := by decide +kernel
  have l1 : lin 8660422083433463808 = 8660422083433463808 := by decide +kernel
  have f0 : Fnt 0 := by unfold Fnt; decide
  have f1 : Fnt 8660422083433463808 := by unfold Fnt; decide
  cases hv : isN v with
  | true => rw [ab_none hv] at h1; cases h1
  | false =>
    have hF : Fnt v := by
      have a1 := h1
      have a2 := h2
      rw [ab_some hv, ab_some z, gtF_lin hv z, eqF_lin hv z, l0] at a1
      rw [ab_some hv, ab_some z1, ltF_lin hv z1, eqF_lin hv z1, l1] at a2
      simp only [Bool.or_eq_true, decide_eq_true_eq] at a1 a2
      unfold Fnt
      unfold lin sgn at a1 a2
      split at a1
      · rename_i q; rw [if_pos q] at a2; omega
      · rename_i q; rw [if_neg q] at a2; omega
    rw [gtF_val hF f0, eqF_val hF f0, val0] at h1
    rw [ltF_val hF f1, eqF_val hF f1, val900] at h2
    simp only [Bool.or_eq_true, decide_eq_true_eq] at h1 h2
    refine ⟨hF, ?_, ?_⟩
    · rcases h1 with h | h <;> grind
    · rcases h2 with h | h <;> grind
/-- What the loop keeps. -/
structure WI (n : Nat) (L : List Spt) (m : Nat) (b : Bool) (lo hi le ri : Int) : Prop where
  len : L.length = m
  all : ∀ s ∈ L, (0 ≤ s.1 ∧ s.1 < n) ∧ (0 ≤ s.2.1 ∧ s.2.1 ≤ 999) ∧ (Fnt s.2.2 ∧ 0 ≤ val s.2.2 ∧ val s.2.2 ≤ pw 900) ∧ s.2.2 < 18446744073709551616
  rng : ∀ s ∈ L, (lo ≤ s.1 ∧ s.1 ≤ hi) ∧ le ≤ s.2.1 ∧ s.2.1 ≤ ri
  bnd : (0 ≤ lo ∧ lo ≤ 65535) ∧ (0 ≤ hi ∧ hi ≤ 65535) ∧ (0 ≤ le ∧ le ≤ 999) ∧ (0 ≤ ri ∧ ri ≤ 999)
  top : 0 < m → hi < n
  abv : b = true → ∃ s ∈ L, 0 < val s.2.2
theorem WI.start (n : Nat) : WI n [] 0 false 0 0 0 0 := ⟨rfl, fun s h => (by simp at h), fun s h => (by simp at h), by omega, fun h => by omega, fun h => by cases h⟩
theorem WI.first {n : Nat} {L : List Spt} {b : Bool} {lo hi le ri x y : Int} (h : WI n L 0 b lo hi le ri) (x0 : 0 ≤ x) (x1 : x < n) (y0 : 0 ≤ y) (y1 : y ≤ 999) (hn : n ≤ 65536) : WI n L 0 b x x y y := by
  have hL : L = [] := List.length_eq_zero_iff.1 h.len
  subst hL
  exact ⟨rfl, h.all, fun s hs => by simp at hs, by omega, fun q => by omega, h.abv⟩
theorem WI.push {n m v : Nat} {L : List Spt} {b g : Bool} {lo hi le ri x y : Int} (h : WI n L m b lo hi le ri) (x0 : 0 ≤ x) (x1 : x < n) (y0 : 0 ≤ y) (y1 : y ≤ 999) (hn : n ≤ 65536) (hv : Fnt v ∧ 0 ≤ val v ∧ val v ≤ pw 900) (hf : v < 18446744073709551616) (hg : gtF (ab v) (ab 0) = g) (hb : 0 < m ∨ (lo = x ∧ hi = x)) : WI n (L ++ [(x, y, v)]) (m + 1) (b || g) (min lo x) (max hi x) (min le y) (max ri y) := by
  have hB := h.bnd
  refine ⟨by rw [List.length_append, h.len]; rfl, fun s hs => ?_, fun s hs => ?_, by omega, fun _ => ?_, fun hbg => ?_⟩
  · rcases List.mem_append.1 hs with q | q
    · exact h.all s q
    · rw [List.mem_singleton] at q; subst q; exact ⟨⟨x0, x1⟩, ⟨y0, y1⟩, hv, hf⟩
  · rcases List.mem_append.1 hs with q | q
    · have := h.rng s q; omega
    · rw [List.mem_singleton] at q
      subst q
      show (min lo x ≤ x ∧ x ≤ max hi x) ∧ min le y ≤ y ∧ y ≤ max ri y
      omega
  · rcases hb with q | q
    · have := h.top q; omega
    · omega
  · rw [Bool.or_eq_true] at hbg
    rcases hbg with q | q
    · obtain ⟨s, hs, hp⟩ := h.abv q
      exact ⟨s, List.mem_append.2 (Or.inl hs), hp⟩
    · refine ⟨(x, y, v), List.mem_append.2 (Or.inr (List.mem_singleton.2 rfl)), ?_⟩
      rw [q, gtF_val hv.1 (by unfold Fnt; decide), val0] at hg
      simpa using hg
theorem WI.view {n m : Nat} {L : List Spt} {b : Bool} {lo hi le ri : Int} (h : WI n L m b lo hi le ri) (hn : n ≤ 65536) : ∀ s ∈ L, Wf s ∧ s.2.2 < 18446744073709551616 := fun s hs => by
  obtain ⟨a1, a2, _, a4⟩ := h.all s hs
  exact ⟨⟨⟨by omega, by omega⟩, by omega, by omega⟩, a4⟩
/-- 10^-6 is more than 2^-22. -/
theorem tenth : ep ≤ val 4517329193108106637 ∧ val 4517329193108106637 ≤ 1 ∧ Fnt 4517329193108106637 := ⟨by decide +kernel, by decide +kernel, by unfold Fnt; decide⟩
/-- Beside a whole number, 10^-6 off. -/
theorem beside {K : Int} (hK : -100000 ≤ K) (hK1 : K ≤ 100000) : ∃ a b, bin .sub (ab (floatOfInt .f64 K)) (ab 4517329193108106637) = some a ∧ bin .add (ab (floatOfInt .f64 K)) (ab 4517329193108106637) = some b ∧ Fnt a ∧ Fnt b ∧ val a ≤ (K : Rat) - ep ∧ (K : Rat) + ep ≤ val b := by
  obtain ⟨t1, t2, t3⟩ := tenth
  obtain ⟨fk, vk⟩ := int_valZ (K := K) (by omega)
  obtain ⟨a, ha⟩ := bin_some_sub fk t3
  obtain ⟨b, hb⟩ := bin_some_add fk t3
  have c1 : (-100000 : Rat) ≤ (K : Rat) := Rat.intCast_le_intCast.2 hK
  have c2 : (K : Rat) ≤ 100000 := Rat.intCast_le_intCast.2 hK1
  have p0 := ep0
  have big := bigN (show (300000 : Rat) ≤ 300000 from Rat.le_refl)
  have s1 : val (floatOfInt .f64 K) - val 4517329193108106637 ≤ 300000 := by rw [vk]; grind
  have s2 : -300000 ≤ val (floatOfInt .f64 K) - val 4517329193108106637 := by rw [vk]; grind
  have s3 : val (floatOfInt .f64 K) + val 4517329193108106637 ≤ 300000 := by rw [vk]; grind
  have s4 : -300000 ≤ val (floatOfInt .f64 K) + val 4517329193108106637 := by rw [vk]; grind
  obtain ⟨z1, _, v1⟩ := small_float (K := K * 4194304 - 1) (by omega)
  obtain ⟨z2, _, v2⟩ := small_float (K := K * 4194304 + 1) (by omega)
  rw [ep_unit'] at v1
  rw [ep_unit] at v2
  refine ⟨a, b, by rw [Fnt.ab fk, Fnt.ab t3]; exact ha, by rw [Fnt.ab fk, Fnt.ab t3]; exact hb, (sub_near fk t3 ha s1 s2 big).1, (add_near fk t3 hb s3 s4 big).1, ?_, ?_⟩
  · rw [← v1]
    exact (sub_mono fk t3 ha (by grind) (by grind) (z := z1)).1 (by rw [v1, vk]; grind)
  · rw [← v2]
    exact (add_mono fk t3 hb (by grind) (by grind) (z := z2)).2 (by rw [v2, vk]; grind)
/-- At least, at most, of floats. -/
theorem ge_of {x y : Nat} (hx : Fnt x) (hy : Fnt y) (h : val y ≤ val x) : (gtF (ab x) (ab y) = true ∨ eqF (ab x) (ab y) = true) := by
  rw [gtF_val hx hy, eqF_val hx hy]
  simp only [decide_eq_true_eq]
  rcases rat_lt_or_le (val y) (val x) with k | k
  · exact Or.inl k
  · right; grind
theorem le_of' {x y : Nat} (hx : Fnt x) (hy : Fnt y) (h : val x ≤ val y) : (ltF (ab x) (ab y) = true ∨ eqF (ab x) (ab y) = true) := by
  rw [ltF_val hx hy, eqF_val hx hy]
  simp only [decide_eq_true_eq]
  rcases rat_lt_or_le (val x) (val y) with k | k
  · exact Or.inl k
  · right; grind
end Go.Proofs.Ytephkmahnbhmbaa
/- PeaksWithin: the walk. -/
namespace Go.Proofs.Ytephkmahnbhmbaa
open Go.ChangeShapes Go.WideShapes Go.ChangeAt Go.RowKit Go.Fl Go.Sort
attribute [local go_sem] run_store_float call52 run_neg fold_eq fold_ne fold_lt fold_gt abs_eq run_min run_max
set_option maxRecDepth 20000
theorem tmod_in (a : Int) {n : Int} (h : 1 ≤ n) : -n < a.tmod n ∧ a.tmod n < n := by
  have h1 := Int.tmod_lt_of_pos a (show 0 < n by omega)
  have h2 := Int.neg_tmod a n
  have h3 := Int.tmod_lt_of_pos (-a) (show 0 < n by omega)
  omega
theorem tmod_in2 {t n : Int} (h : 1 ≤ n) (h1 : -n < t) : 0 ≤ (t + n).tmod n ∧ (t + n).tmod n < n := ⟨Int.tmod_nonneg _ (by omega), Int.tmod_lt_of_pos _ (by omega)⟩
theorem four_box (w : World) (a b c e : Value) (t : TypeId) : (w.alloc (.cells #[a, b, c, e] t)).cell? ⟨w.heap.size, 0, none⟩ = some a ∧ (w.alloc (.cells #[a, b, c, e] t)).cell? ⟨w.heap.size, 1, none⟩ = some b ∧ (w.alloc (.cells #[a, b, c, e] t)).cell? ⟨w.heap.size, 2, none⟩ = some c ∧ (w.alloc (.cells #[a, b, c, e] t)).cell? ⟨w.heap.size, 3, none⟩ = some e := by
  refine ⟨?_, ?_, ?_, ?_⟩ <;> rw [World.cell?_alloc_at _ _ _ _ rfl] <;> rfl
set_option maxHeartbeats 8000000 in
theorem t8k {w : World} {p : Option Addr} {N cap : Nat} {d : Array Spt} (bins : Nat) (hbn : bins ≤ 65535) (h : SpV w p N cap d) : Calls Try.prog 8 #[.slice p N cap, .int .u16 bins] w fun e w' => e = .returned (.bool true) ∧ Hid (Up w w') := by
  have C13 : Hid (∀ w, Calls Try.prog 13 #[] w fun e w' => e = .returned (.bool true) ∧ Hid (Up w w')) := t13
  have HSV : Hid (SpV w p N cap d) := h
  have hfew := h.few
  have hcap := h.cap
  obtain ⟨i0, hi0, hz0, hz1, hz2⟩ := info_parts info29
  obtain ⟨n, hn⟩ : ∃ n, bins + 1 = n := ⟨_, rfl⟩
  have n1 : 1 ≤ n := by omega
  have n2 : n ≤ 65536 := by omega
  have en : (bins : Int) + 1 = (n : Int) := by omega
  have nz : ¬ (n : Int) = 0 := by omega
  have nz3 : ¬ n = 0 := by omega
  have nz2 : ((n : Int) == 0) = false := by rw [beq_eq_false_iff_ne]; omega
  clear h hn
  go_enter Try.func8, Try.ntmps8
  go_wp2
  go_loopw [6, 7, 8, 9, 10, 11, 12, 13] (fun v6 v7 v8 v9 v10 v11 v12 _ wr => ∃ (i m c : Nat) (q : Option Addr) (L : List Spt) (b : Bool) (lo hi le ri : Int), (i ≤ N ∧ i ≤ 500) ∧ v12 = .int .i64 i ∧ v6 = .slice q m c ∧ m ≤ i ∧ v7 = .bool b ∧ v8 = .int .i64 lo ∧ v9 = .int .i64 hi ∧ v10 = .int .i64 le ∧ v11 = .int .i64 ri ∧ Hid (WI n L m b lo hi le ri) ∧ Hid (SO w.heap.size wr (.slice q m c) L) ∧ Hid (Up w wr)) (fun _ _ _ _ _ _ v12 _ _ => N - (intOf v12).toNat)
  case atStart => exact ⟨0, 0, 0, none, [], false, 0, 0, 0, 0, by omega, rfl, rfl, by omega, rfl, rfl, rfl, rfl, rfl, WI.start n, SO.nil _ _, Up.refl _⟩
  case round =>
    obtain ⟨i, m, c, q, L, b, lo, hi, le, ri, ⟨hi1, hi2⟩, rfl, rfl, hmi, rfl, rfl, rfl, rfl, rfl, HW, HO, HU⟩ := hrel
    rename World => W0
    by_cases hlt : i < N ∧ i < 500
    · obtain ⟨hl1, hl2⟩ := hlt
      obtain ⟨pb, po, rfl, hr⟩ := HSV.out.rd (by omega)
      obtain ⟨k0, k1, k2⟩ := hr i hl1
      have hfit := HSV.out.fit i hl1
      have hwf := HSV.out.wf i hl1
      obtain ⟨s, hs⟩ : ∃ s, d[i]! = s := ⟨_, rfl⟩
      rw [hs] at k0 k1 k2 hfit hwf
      obtain ⟨s1, s2, v⟩ := s
      obtain ⟨⟨w1, w2⟩, w3, w4⟩ := hwf
      simp only at k0 k1 k2 hfit w1 w2 w3 w4
      replace k0 := cell_up k0 HU.out
      replace k1 := cell_up k1 HU.out
      replace k2 := cell_up k2 HU.out
      have HFIT : Hid (v < 18446744073709551616) := hfit
      clear hr hs hfit
      obtain ⟨a, ha⟩ : ∃ a, s1.tmod (n : Int) = a := ⟨_, rfl⟩
      have ha1 := tmod_in s1 (show (1 : Int) ≤ (n : Int) by omega)
      rw [ha] at ha1
      obtain ⟨a1, a2⟩ := ha1
      obtain ⟨x, hx⟩ : ∃ x, (a + (n : Int)).tmod (n : Int) = x := ⟨_, rfl⟩
      have hx1 := tmod_in2 (show (1 : Int) ≤ (n : Int) by omega) a1
      rw [hx] at hx1
      obtain ⟨x0, x1⟩ := hx1
      obtain ⟨g, hg⟩ : ∃ g, s2.tmod 1000 = g := ⟨_, rfl⟩
      have hg1 := tmod_in s2 (show (1 : Int) ≤ 1000 by omega)
      rw [hg] at hg1
      obtain ⟨g1, g2⟩ := hg1
      obtain ⟨y, hy⟩ : ∃ y, (g + 1000).tmod 1000 = y := ⟨_, rfl⟩
      have hy1 := tmod_in2 (show (1 : Int) ≤ 1000 by omega) g1
      rw [hy] at hy1
      obtain ⟨y0, y1⟩ := hy1
      have wa : IntKind.i64.wrap a = a := by rw [IntKind.wrap_i64]; omega
      have wan : IntKind.i64.wrap (a + (n : Int)) = a + (n : Int) := by rw [IntKind.wrap_i64]; omega
      have wx : IntKind.i64.wrap x = x := by rw [IntKind.wrap_i64]; omega
      have wg : IntKind.i64.wrap g = g := by rw [IntKind.wrap_i64]; omega
      have wgn : IntKind.i64.wrap (g + 1000) = g + 1000 := by rw [IntKind.wrap_i64]; omega
      have wy : IntKind.i64.wrap y = y := by rw [IntKind.wrap_i64]; omega
      have e1 : (i : Int) < (N : Int) := by omega
      have e2 : (i : Int) < 500 := by omega
      have e3 : (0 : Int) ≤ (i : Int) := by omega
      go_upto_region 8 with fail
      obtain ⟨R, hR⟩ : ∃ R, W0.heap.size = R := ⟨_, rfl⟩
      go_cut [13] from 31 to 55 (fun s13 wx => s13 = .pointer (some ⟨R, 0, none⟩) ∧ Hid (wx.heap[R]? = some (row3 (x, y, v))) ∧ Hid (Up W0 wx))
      case first =>
        go_region_held3 (fun w' => w'.cell? ⟨pb, po + i * 3, none⟩ = some (.int .i64 s1) ∧ w'.cell? ⟨pb, po + i * 3 + 1, none⟩ = some (.int .i64 s2) ∧ w'.cell? ⟨pb, po + i * 3 + 2, none⟩ = some (.float .f64 v)) (first | go_keep | exact ⟨cell_up k0 (Up.alloc _ _), cell_up k1 (Up.alloc _ _), cell_up k2 (Up.alloc _ _)⟩) (fail)
        all_goals
          try go_wp2
          go_meet
          case rel => exact ⟨by rw [← hR], by show _ = _; rw [← hR]; exact heap_alloc_last W0 _, (Up.alloc _ _).trans (Up.drewN _ 1)⟩
      case rest =>
        obtain ⟨rfl, HRR, HU1⟩ := hcut
        have HU2 : Hid (Up w wc) := HU.out.trans HU1.out
        have HO2 : Hid (SO w.heap.size wc (.slice q m c) L) := HO.out.up HU1.out
        clear k0 k1 k2 ha hx hg hy wa wan wx wg wgn wy a1 a2 g1 g2 HO HU HU1 w1 w2 w3 w4
        obtain ⟨⟨u0, u1, u2⟩, -⟩ : (wc.cell? ⟨R, 0, none⟩ = some (.int .i64 x) ∧ wc.cell? ⟨R, 1, none⟩ = some (.int .i64 y) ∧ wc.cell? ⟨R, 2, none⟩ = some (.float .f64 v)) ∧ True := ⟨⟨by rw [cell_of_row _ _ _ _ _ _ HRR.out]; rfl, by rw [cell_of_row _ _ _ _ _ _ HRR.out]; rfl, by rw [cell_of_row _ _ _ _ _ _ HRR.out]; rfl⟩, trivial⟩
        obtain ⟨ge, hge⟩ : ∃ b, (gtF (ab v) (ab 0) || eqF (ab v) (ab 0)) = b := ⟨_, rfl⟩
        obtain ⟨lq, hlq⟩ : ∃ b, (ltF (ab v) (ab 8660422083433463808) || eqF (ab v) (ab 8660422083433463808)) = b := ⟨_, rfl⟩
        have HGE : Hid ((gtF (ab v) (ab 0) || eqF (ab v) (ab 0)) = ge) := hge
        have HLQ : Hid ((ltF (ab v) (ab 8660422083433463808) || eqF (ab v) (ab 8660422083433463808)) = lq) := hlq
        cases ge
        · rw [Bool.or_eq_false_iff] at hge
          obtain ⟨ga, gb⟩ := hge
          clear hlq
          go_wp2
          go_roundw
          case rel => exact ⟨i + 1, m, c, q, L, b, lo, hi, le, ri, by omega, by go_num, rfl, by omega, rfl, rfl, rfl, rfl, rfl, HW, HO2, HU2⟩
          case measure => simp [intOf]; omega
        · rw [Bool.or_eq_true] at hge
          cases lq
          · rw [Bool.or_eq_false_iff] at hlq
            obtain ⟨la, lb⟩ := hlq
            go_wp2
            all_goals
              go_roundw
              case rel => exact ⟨i + 1, m, c, q, L, b, lo, hi, le, ri, by omega, by go_num, rfl, by omega, rfl, rfl, rfl, rfl, rfl, HW, HO2, HU2⟩
              case measure => simp [intOf]; omega
          · rw [Bool.or_eq_true] at hlq
            have HPV : Hid (Fnt v ∧ 0 ≤ val v ∧ val v ≤ pw 900) := pow_in HGE.out HLQ.out
            go_upto_region 10 with fail
            · exact ⟨⟨i + 1, m, c, q, L, b, lo, hi, le, ri, by omega, by go_num, rfl, by omega, rfl, rfl, rfl, rfl, rfl, HW, HO2, HU2⟩, by simp [intOf]; omega⟩
            · clear hge hlq
              obtain ⟨gt, hgt⟩ : ∃ b, gtF (ab v) (ab 0) = b := ⟨_, rfl⟩
              have HGT : Hid (gtF (ab v) (ab 0) = gt) := hgt
              go_cut [7] from 65 to 70 (fun s7 wx => s7 = .bool (b || gt) ∧ wx = wc)
              case first =>
                cases b <;> cases gt
                all_goals
                  go_wp2
                  go_meet
                  case rel => exact ⟨rfl, rfl⟩
              case rest =>
                obtain ⟨rfl, hwc2⟩ := hcut
                subst hwc2
                clear hgt
                generalize hbb : (b || gt) = bb at *
                have HBB : Hid ((b || gt) = bb) := hbb
                clear hbb
                by_cases hm0 : m = 0
                · have em : ((m : Int) == 0) = true := by rw [beq_iff_eq]; omega
                  have HW1 : Hid (WI n L m b x x y y) := by subst hm0; exact HW.out.first x0 x1 y0 (by omega) n2
                  have HM : Hid (0 < m ∨ (x = x ∧ x = x)) := Or.inr ⟨rfl, rfl⟩
                  go_upto_region 12 with fail
                  go_quiet (fail)
                  have HO3 : Hid (SO w.heap.size (wc.drewN nq) (.slice q m c) L) := HO2.out.up (Up.drewN _ _)
                  have HU3 : Hid (Up w (wc.drewN nq)) := HU2.out.trans (Up.drewN _ _)
                  replace u0 := cell_up u0 (Up.drewN wc nq)
                  replace u1 := cell_up u1 (Up.drewN wc nq)
                  replace u2 := cell_up u2 (Up.drewN wc nq)
                  generalize wc.drewN nq = W at *
                  clear HO2 HU2 hm0
                  go_upto_region 13 with fail
                  refine wp_region_shut 19 [(0, none), (1, none), (2, some false), (3, none), (4, none), (5, none), (6, some false), (7, none), (8, none), (9, none), (10, some false), (11, none), (12, none), (13, none), (14, some false), (15, none), (16, none), (17, none), (18, none)] (fun w' => Up W w') (by kernel_rfl) (by decide) rfl (by kernel_rfl) (fun _ _ d _ _ h => by cases d <;> exact h) (Up.drewN W 1) ?_
                  refine OrdS.looks (.int .i64 x) (some 82) _ rfl rfl (Or.inl ⟨by kernel_rfl, fun w' hS => ?_⟩) ?_
                  · go_simp
                  refine OrdS.looks (.pointer (some ⟨R, 0, none⟩)) (some 83) _ rfl rfl (Or.inl ⟨by kernel_rfl, fun w' hS => ?_⟩) ?_
                  · go_simp
                  refine OrdS.reads (.int .i64 x) (some 84) _ rfl rfl (Or.inl ⟨by kernel_rfl, fun w' hS => ?_⟩) ?_
                  · have q0 := cell_up u0 hS
                    have q1 := cell_up u1 hS
                    go_simp
                  refine OrdS.looks (.int .i64 (min x x)) (some 85) _ rfl rfl (Or.inl ⟨by kernel_rfl, fun w' hS => ?_⟩) ?_
                  · go_simp
                  refine OrdS.looks (.int .i64 x) (some 86) _ rfl rfl (Or.inl ⟨by kernel_rfl, fun w' hS => ?_⟩) ?_
                  · go_simp
                  refine OrdS.looks (.pointer (some ⟨R, 0, none⟩)) (some 87) _ rfl rfl (Or.inl ⟨by kernel_rfl, fun w' hS => ?_⟩) ?_
                  · go_simp
                  refine OrdS.reads (.int .i64 x) (some 88) _ rfl rfl (Or.inl ⟨by kernel_rfl, fun w' hS => ?_⟩) ?_
                  · have q0 := cell_up u0 hS
                    have q1 := cell_up u1 hS
                    go_simp
                  refine OrdS.looks (.int .i64 (max x x)) (some 89) _ rfl rfl (Or.inl ⟨by kernel_rfl, fun w' hS => ?_⟩) ?_
                  · go_simp
                  refine OrdS.looks (.int .i64 y) (some 90) _ rfl rfl (Or.inl ⟨by kernel_rfl, fun w' hS => ?_⟩) ?_
                  · go_simp
                  refine OrdS.looks (.pointer (some ⟨R, 1, none⟩)) (some 91) _ rfl rfl (Or.inl ⟨by kernel_rfl, fun w' hS => ?_⟩) ?_
                  · go_simp
                  refine OrdS.reads (.int .i64 y) (some 92) _ rfl rfl (Or.inl ⟨by kernel_rfl, fun w' hS => ?_⟩) ?_
                  · have q0 := cell_up u0 hS
                    have q1 := cell_up u1 hS
                    go_simp
                  refine OrdS.looks (.int .i64 (min y y)) (some 93) _ rfl rfl (Or.inl ⟨by kernel_rfl, fun w' hS => ?_⟩) ?_
                  · go_simp
                  refine OrdS.looks (.int .i64 y) (some 94) _ rfl rfl (Or.inl ⟨by kernel_rfl, fun w' hS => ?_⟩) ?_
                  · go_simp
                  refine OrdS.looks (.pointer (some ⟨R, 1, none⟩)) (some 95) _ rfl rfl (Or.inl ⟨by kernel_rfl, fun w' hS => ?_⟩) ?_
                  · go_simp
                  refine OrdS.reads (.int .i64 y) (some 96) _ rfl rfl (Or.inl ⟨by kernel_rfl, fun w' hS => ?_⟩) ?_
                  · have q0 := cell_up u0 hS
                    have q1 := cell_up u1 hS
                    go_simp
                  refine OrdS.looks (.int .i64 (max y y)) (some 97) _ rfl rfl (Or.inl ⟨by kernel_rfl, fun w' hS => ?_⟩) ?_
                  · go_simp
                  refine OrdS.looks (.int .i64 (min x x)) (some 8) _ rfl rfl (Or.inl ⟨by kernel_rfl, fun w' hS => ?_⟩) ?_
                  · go_simp
                  refine OrdS.looks (.int .i64 (max x x)) (some 9) _ rfl rfl (Or.inl ⟨by kernel_rfl, fun w' hS => ?_⟩) ?_
                  · go_simp
                  refine OrdS.looks (.int .i64 (min y y)) (some 10) _ rfl rfl (Or.inl ⟨by kernel_rfl, fun w' hS => ?_⟩) ?_
                  · go_simp
                  refine OrdS.ends ?_
                  simp only [List.drop_succ_cons, List.drop_zero, Act.put, List.setIfInBounds_toArray, List.set_cons_succ, List.set_cons_zero]
                  have HW2 : Hid (WI n (L ++ [(x, y, v)]) (m + 1) bb (min x x) (max x x) (min y y) (max y y)) := by rw [← HBB.out]; exact HW1.out.push x0 x1 y0 (by omega) n2 HPV.out HFIT.out HGT.out HM.out
                  have HO4 : Hid (SO w.heap.size W.drew (.slice q m c) L) := HO3.out.up (Up.drewN W 1)
                  have HU4 : Hid (Up w W.drew) := HU3.out.trans (Up.drewN W 1)
                  replace u0 := cell_up u0 (Up.drewN W 1)
                  replace u1 := cell_up u1 (Up.drewN W 1)
                  replace u2 := cell_up u2 (Up.drewN W 1)
                  have u0 : W.drew.cell? ⟨R, 0, none⟩ = some (.int .i64 x) := u0
                  have u1 : W.drew.cell? ⟨R, 1, none⟩ = some (.int .i64 y) := u1
                  have u2 : W.drew.cell? ⟨R, 2, none⟩ = some (.float .f64 v) := u2
                  generalize W.drew = W9 at *
                  generalize min x x = lo' at *
                  generalize max x x = hi' at *
                  generalize min y y = le' at *
                  generalize max y y = ri' at *
                  have sz : w.heap.size ≤ W9.heap.size := HU4.out.size
                  have hown : W9.ownsRow w.heap.size 29 3 (.slice q m c) m (L.flatMap spC) := by have := HO4.out; unfold SO at this; rw [HW1.out.len] at this; exact this
                  go_wp2_with (at_builtin; refine wpList_append_own _ rfl _ _ 25 rfl w.heap.size 29 i0 (.agg #[.int .i64 0, .int .i64 0, .float .f64 0]) 3 24 Try.underlying25 hi0 hz0 hz1 hz2 rfl (by decide) _ _ _ rfl (hown.alloc _) ⟨W9.heap.size, 0, none⟩ 1 1 [.int .i64 x, .int .i64 y, .float .f64 v] rfl rfl (three_new _ _ _ _ _) (three_one rfl rfl rfl) (by unfold maxLen; omega) (by omega) (by simp; omega) ?_)
                  intro v' w6 hown' hgrow _
                  have R3 := so_push (s := (x, y, v)) (Nat.le_refl _) HW1.out.len hown HU4.out hown' hgrow
                  have U6 : Hid (Up w w6) := R3.2
                  obtain ⟨p', c', hv', _⟩ := own_form hown'
                  subst hv'
                  have S6 : Hid (SO w.heap.size w6 (.slice p' (m + 1) c') (L ++ [(x, y, v)])) := R3.1
                  clear R3 hown' hgrow hown
                  go_wp2
                  go_roundw
                  case rel => exact ⟨i + 1, m + 1, c', p', _, bb, lo', hi', le', ri', by omega, by go_num, rfl, by omega, rfl, rfl, rfl, rfl, rfl, HW2, S6, U6⟩
                  case measure => simp [intOf]; omega
                · have em : ((m : Int) == 0) = false := by rw [beq_eq_false_iff_ne]; omega
                  have HW1 : Hid (WI n L m b lo hi le ri) := HW.out
                  have HM : Hid (0 < m ∨ (lo = x ∧ hi = x)) := Or.inl (by omega)
                  have HO3 : Hid (SO w.heap.size wc (.slice q m c) L) := HO2.out
                  have HU3 : Hid (Up w wc) := HU2.out
                  clear HO2 HU2 hm0
                  go_upto_region 13 with fail
                  refine wp_region_shut 19 [(0, none), (1, none), (2, some false), (3, none), (4, none), (5, none), (6, some false), (7, none), (8, none), (9, none), (10, some false), (11, none), (12, none), (13, none), (14, some false), (15, none), (16, none), (17, none), (18, none)] (fun w' => Up wc w') (by kernel_rfl) (by decide) rfl (by kernel_rfl) (fun _ _ d _ _ h => by cases d <;> exact h) (Up.drewN wc 1) ?_
                  refine OrdS.looks (.int .i64 lo) (some 82) _ rfl rfl (Or.inl ⟨by kernel_rfl, fun w' hS => ?_⟩) ?_
                  · go_simp
                  refine OrdS.looks (.pointer (some ⟨R, 0, none⟩)) (some 83) _ rfl rfl (Or.inl ⟨by kernel_rfl, fun w' hS => ?_⟩) ?_
                  · go_simp
                  refine OrdS.reads (.int .i64 x) (some 84) _ rfl rfl (Or.inl ⟨by kernel_rfl, fun w' hS => ?_⟩) ?_
                  · have q0 := cell_up u0 hS
                    have q1 := cell_up u1 hS
                    go_simp
                  refine OrdS.looks (.int .i64 (min lo x)) (some 85) _ rfl rfl (Or.inl ⟨by kernel_rfl, fun w' hS => ?_⟩) ?_
                  · go_simp
                  refine OrdS.looks (.int .i64 hi) (some 86) _ rfl rfl (Or.inl ⟨by kernel_rfl, fun w' hS => ?_⟩) ?_
                  · go_simp
                  refine OrdS.looks (.pointer (some ⟨R, 0, none⟩)) (some 87) _ rfl rfl (Or.inl ⟨by kernel_rfl, fun w' hS => ?_⟩) ?_
                  · go_simp
                  refine OrdS.reads (.int .i64 x) (some 88) _ rfl rfl (Or.inl ⟨by kernel_rfl, fun w' hS => ?_⟩) ?_
                  · have q0 := cell_up u0 hS
                    have q1 := cell_up u1 hS
                    go_simp
                  refine OrdS.looks (.int .i64 (max hi x)) (some 89) _ rfl rfl (Or.inl ⟨by kernel_rfl, fun w' hS => ?_⟩) ?_
                  · go_simp
                  refine OrdS.looks (.int .i64 le) (some 90) _ rfl rfl (Or.inl ⟨by kernel_rfl, fun w' hS => ?_⟩) ?_
                  · go_simp
                  refine OrdS.looks (.pointer (some ⟨R, 1, none⟩)) (some 91) _ rfl rfl (Or.inl ⟨by kernel_rfl, fun w' hS => ?_⟩) ?_
                  · go_simp
                  refine OrdS.reads (.int .i64 y) (some 92) _ rfl rfl (Or.inl ⟨by kernel_rfl, fun w' hS => ?_⟩) ?_
                  · have q0 := cell_up u0 hS
                    have q1 := cell_up u1 hS
                    go_simp
                  refine OrdS.looks (.int .i64 (min le y)) (some 93) _ rfl rfl (Or.inl ⟨by kernel_rfl, fun w' hS => ?_⟩) ?_
                  · go_simp
                  refine OrdS.looks (.int .i64 ri) (some 94) _ rfl rfl (Or.inl ⟨by kernel_rfl, fun w' hS => ?_⟩) ?_
                  · go_simp
                  refine OrdS.looks (.pointer (some ⟨R, 1, none⟩)) (some 95) _ rfl rfl (Or.inl ⟨by kernel_rfl, fun w' hS => ?_⟩) ?_
                  · go_simp
                  refine OrdS.reads (.int .i64 y) (some 96) _ rfl rfl (Or.inl ⟨by kernel_rfl, fun w' hS => ?_⟩) ?_
                  · have q0 := cell_up u0 hS
                    have q1 := cell_up u1 hS
                    go_simp
                  refine OrdS.looks (.int .i64 (max ri y)) (some 97) _ rfl rfl (Or.inl ⟨by kernel_rfl, fun w' hS => ?_⟩) ?_
                  · go_simp
                  refine OrdS.looks (.int .i64 (min lo x)) (some 8) _ rfl rfl (Or.inl ⟨by kernel_rfl, fun w' hS => ?_⟩) ?_
                  · go_simp
                  refine OrdS.looks (.int .i64 (max hi x)) (some 9) _ rfl rfl (Or.inl ⟨by kernel_rfl, fun w' hS => ?_⟩) ?_
                  · go_simp
                  refine OrdS.looks (.int .i64 (min le y)) (some 10) _ rfl rfl (Or.inl ⟨by kernel_rfl, fun w' hS => ?_⟩) ?_
                  · go_simp
                  refine OrdS.ends ?_
                  simp only [List.drop_succ_cons, List.drop_zero, Act.put, List.setIfInBounds_toArray, List.set_cons_succ, List.set_cons_zero]
                  have HW2 : Hid (WI n (L ++ [(x, y, v)]) (m + 1) bb (min lo x) (max hi x) (min le y) (max ri y)) := by rw [← HBB.out]; exact HW1.out.push x0 x1 y0 (by omega) n2 HPV.out HFIT.out HGT.out HM.out
                  have HO4 : Hid (SO w.heap.size wc.drew (.slice q m c) L) := HO3.out.up (Up.drewN wc 1)
                  have HU4 : Hid (Up w wc.drew) := HU3.out.trans (Up.drewN wc 1)
                  replace u0 := cell_up u0 (Up.drewN wc 1)
                  replace u1 := cell_up u1 (Up.drewN wc 1)
                  replace u2 := cell_up u2 (Up.drewN wc 1)
                  have u0 : wc.drew.cell? ⟨R, 0, none⟩ = some (.int .i64 x) := u0
                  have u1 : wc.drew.cell? ⟨R, 1, none⟩ = some (.int .i64 y) := u1
                  have u2 : wc.drew.cell? ⟨R, 2, none⟩ = some (.float .f64 v) := u2
                  generalize wc.drew = W9 at *
                  generalize min lo x = lo' at *
                  generalize max hi x = hi' at *
                  generalize min le y = le' at *
                  generalize max ri y = ri' at *
                  have sz : w.heap.size ≤ W9.heap.size := HU4.out.size
                  have hown : W9.ownsRow w.heap.size 29 3 (.slice q m c) m (L.flatMap spC) := by have := HO4.out; unfold SO at this; rw [HW1.out.len] at this; exact this
                  go_wp2_with (at_builtin; refine wpList_append_own _ rfl _ _ 25 rfl w.heap.size 29 i0 (.agg #[.int .i64 0, .int .i64 0, .float .f64 0]) 3 24 Try.underlying25 hi0 hz0 hz1 hz2 rfl (by decide) _ _ _ rfl (hown.alloc _) ⟨W9.heap.size, 0, none⟩ 1 1 [.int .i64 x, .int .i64 y, .float .f64 v] rfl rfl (three_new _ _ _ _ _) (three_one rfl rfl rfl) (by unfold maxLen; omega) (by omega) (by simp; omega) ?_)
                  intro v' w6 hown' hgrow _
                  have R3 := so_push (s := (x, y, v)) (Nat.le_refl _) HW1.out.len hown HU4.out hown' hgrow
                  have U6 : Hid (Up w w6) := R3.2
                  obtain ⟨p', c', hv', _⟩ := own_form hown'
                  subst hv'
                  have S6 : Hid (SO w.heap.size w6 (.slice p' (m + 1) c') (L ++ [(x, y, v)])) := R3.1
                  clear R3 hown' hgrow hown
                  go_wp2
                  go_roundw
                  case rel => exact ⟨i + 1, m + 1, c', p', _, bb, lo', hi', le', ri', by omega, by go_num, rfl, by omega, rfl, rfl, rfl, rfl, rfl, HW2, S6, U6⟩
                  case measure => simp [intOf]; omega
    · go_upto_region 6 with fail
      go_cut [28] from 21 to 28 (fun s28 wx => s28 = .bool false ∧ wx = W0)
      case first =>
        by_cases hl1 : i < N
        · have e1 : (i : Int) < (N : Int) := by omega
          have e2 : ¬ (i : Int) < 500 := by omega
          go_wp2
          go_meet
          case rel => exact ⟨rfl, rfl⟩
        · have e1 : ¬ (i : Int) < (N : Int) := by omega
          go_wp2
          go_meet
          case rel => exact ⟨rfl, rfl⟩
      case rest =>
        obtain ⟨rfl, hwc2⟩ := hcut
        subst hwc2
        clear hlt
        have HV : Hid (SpV wc q m c L.toArray) := so_view HO.out HW.out.len (by omega) (HW.out.view n2)
        have C18 : Hid (Calls Try.prog 18 #[.slice q m c, .int .i64 n] wc (CR wc m (centF L.toArray m n))) := t18 n HV.out
        obtain ⟨⟨l0, l1⟩, ⟨l2, l3⟩, ⟨l4, l5⟩, l6, l7⟩ := HW.out.bnd
        cases b
        · go_wp2_with (first
            | (go_at_call 18; (with_reducible refine C18.out.mono ?_); rintro e w4 ⟨x1, x2, x3, rfl, HX, HU4⟩)
            | (go_at_call 13; (with_reducible refine (C13.out _).mono ?_); rintro e w5 ⟨rfl, HU5⟩))
          go_ret
          exact ⟨rfl, ((HU.out.trans HU4.out).trans (Up.alloc _ _)).trans HU5.out⟩
        · have hget : ∀ j, j < m → L.toArray[j]! ∈ L := fun j hj => by
            have e : L.toArray[j]! = L[j]! := by simp
            rw [e, getElem!_pos L j (by rw [HW.out.len]; exact hj)]
            exact List.getElem_mem _
          obtain ⟨s, hs1, hs2⟩ := HW.out.abv rfl
          obtain ⟨j, hj, hje⟩ := List.getElem_of_mem hs1
          have hm1 : 1 ≤ m := by rw [← HW.out.len]; omega
          obtain ⟨B, Y, S, hc, fB, fY, y1, y2, v1, v2, v3⟩ := within_ok (d := L.toArray) (low := lo) (high := hi) (left := le) (right := ri) hm1 (by omega) n1 n2 ⟨fun j hj => (HW.out.all _ (hget j hj)).1, fun j hj => (HW.out.all _ (hget j hj)).2.1, fun j hj => (HW.out.all _ (hget j hj)).2.2.1⟩ ⟨j, by rw [← HW.out.len]; exact hj, by
            have e : L.toArray[j]! = s := by simp [hj, hje]
            rw [e]; exact hs2⟩ (fun j hj => (HW.out.rng _ (hget j hj)).1) (fun j hj => (HW.out.rng _ (hget j hj)).2) l0 (HW.out.top (by omega)) l4 l7
          obtain ⟨al, -, hal, -, fal, -, val1, -⟩ := beside (K := le) (by omega) (by omega)
          obtain ⟨-, br, -, hbr, -, fbr, -, vbr⟩ := beside (K := ri) (by omega) (by omega)
          obtain ⟨cl, -, hcl, -, fcl, -, vcl, -⟩ := beside (K := lo) (by omega) (by omega)
          obtain ⟨-, dr, -, hdr, -, fdr, -, vdr⟩ := beside (K := hi) (by omega) (by omega)
          obtain ⟨en2, -, hen, -, fen, -, ven, -⟩ := beside (K := (n : Int)) (by omega) (by omega)
          obtain ⟨fn, vn⟩ := int_valZ (K := (n : Int)) (by omega)
          have vn' : val (floatOfInt .f64 (n : Int)) = (n : Rat) := vn
          have ven' : val en2 ≤ (n : Rat) - ep := ven
          have f0 : Fnt 0 := by unfold Fnt; decide
          have geb : ∀ {u z : Nat}, Fnt u → Fnt z → val z ≤ val u → (gtF (ab u) (ab z) || eqF (ab u) (ab z)) = true := fun hu hz h => by rw [Bool.or_eq_true]; exact ge_of hu hz h
          have leb : ∀ {u z : Nat}, Fnt u → Fnt z → val u ≤ val z → (ltF (ab u) (ab z) || eqF (ab u) (ab z)) = true := fun hu hz h => by rw [Bool.or_eq_true]; exact le_of' hu hz h
          have HT1 : Hid ((gtF (ab Y) (ab al) || eqF (ab Y) (ab al)) = true) := geb fY fal (Rat.le_trans val1 y2)
          have HT2 : Hid ((ltF (ab Y) (ab br) || eqF (ab Y) (ab br)) = true) := leb fY fbr (Rat.le_trans y1 vbr)
          have HT3 : Hid ((gtF (ab B) (ab 0) || eqF (ab B) (ab 0)) = true) := geb fB f0 (by rw [val0]; exact v1)
          have HT4 : Hid ((ltF (ab B) (ab (floatOfInt .f64 (n : Int))) || eqF (ab B) (ab (floatOfInt .f64 (n : Int)))) = true) := leb fB fn (by rw [vn']; exact v2)
          have HT5 : Hid ((hi - lo) * 3 ≤ n → ((gtF (ab B) (ab cl) || eqF (ab B) (ab cl)) = true ∧ (ltF (ab B) (ab dr) || eqF (ab B) (ab dr)) = true) ∨ (lo = 0 ∧ (gtF (ab B) (ab en2) || eqF (ab B) (ab en2)) = true)) := fun hK => by
            rcases v3 hK with ⟨h1, h2⟩ | ⟨h1, h2⟩
            · exact Or.inl ⟨geb fB fcl (Rat.le_trans vcl h1), leb fB fdr (Rat.le_trans h2 vdr)⟩
            · exact Or.inr ⟨h1, geb fB fen (Rat.le_trans ven' h2)⟩
          have F1 := fun w => run_fl_some (P := Try.prog) .sub 24 w hal
          have F2 := fun w => run_fl_some (P := Try.prog) .add 24 w hbr
          have F3 := fun w => run_fl_some (P := Try.prog) .sub 24 w hcl
          have F4 := fun w => run_fl_some (P := Try.prog) .add 24 w hdr
          have F5 := fun w => run_fl_some (P := Try.prog) .sub 24 w hen
          have HCC : Hid (centF L.toArray m n = (some B, some Y, some S)) := hc
          have HAB : Hid (ab B = some B ∧ ab Y = some Y) := ⟨Fnt.ab fB, Fnt.ab fY⟩
          clear hget hs1 hs2 hj hje hc fB fY y1 y2 v1 v2 v3 hal hbr hcl hdr hen fal fbr fcl fdr fen val1 vbr vcl vdr ven ven' vn vn' fn f0 geb leb
          go_upto_region 18 with (go_at_call 18; (with_reducible refine C18.out.mono ?_); rintro e w4 ⟨x1, x2, x3, rfl, HX, HU4⟩)
          have HUF : Hid (Up w (w4.alloc (.cells #[.float .f64 x1, .float .f64 x2, .float .f64 x3, .int .i64 m] 39))) := (HU.out.trans HU4.out).trans (Up.alloc _ _)
          have ex1 : ab x1 = ab B := by rw [HX.out.1, HCC.out, HAB.out.1]
          have ex2 : ab x2 = ab Y := by rw [HX.out.2.1, HCC.out, HAB.out.2]
          have T1 : (gtF (ab x2) (ab al) || eqF (ab x2) (ab al)) = true := by rw [ex2]; exact HT1.out
          have T2 : (ltF (ab x2) (ab br) || eqF (ab x2) (ab br)) = true := by rw [ex2]; exact HT2.out
          have T3 : (gtF (ab x1) (ab 0) || eqF (ab x1) (ab 0)) = true := by rw [ex1]; exact HT3.out
          have T4 : (ltF (ab x1) (ab (floatOfInt .f64 (n : Int))) || eqF (ab x1) (ab (floatOfInt .f64 (n : Int)))) = true := by rw [ex1]; exact HT4.out
          have HT6 : Hid ((hi - lo) * 3 ≤ n → ((gtF (ab x1) (ab cl) || eqF (ab x1) (ab cl)) = true ∧ (ltF (ab x1) (ab dr) || eqF (ab x1) (ab dr)) = true) ∨ (lo = 0 ∧ (gtF (ab x1) (ab en2) || eqF (ab x1) (ab en2)) = true)) := by rw [ex1]; exact HT5.out
          clear ex1 ex2 HT1 HT2 HT3 HT4 HT5
          have cs := four_box w4 (.float .f64 x1) (.float .f64 x2) (.float .f64 x3) (.int .i64 m) 39
          obtain ⟨c0, c1', c2', c3'⟩ := cs
          generalize w4.alloc (.cells #[.float .f64 x1, .float .f64 x2, .float .f64 x3, .int .i64 m] 39) = WF at *
          generalize w4.heap.size = RF at *
          go_upto_region 19 with fail
          go_cut [16] from 115 to 142 (fun s16 wx => s16 = .bool true ∧ wx = WF)
          case first =>
            go_wp2
            all_goals
              first
                | (go_meet; case rel => first | exact ⟨rfl, rfl⟩ | (refine ⟨?_, rfl⟩; simp_all; done))
                | (exfalso; simp_all; done)
          case rest =>
            obtain ⟨rfl, hwc2⟩ := hcut
            subst hwc2
            clear T1 T2 T3 T4
            by_cases hK : (hi - lo) * 3 ≤ (n : Int)
            · have hK2 : ¬ (n : Int) < (hi - lo) * 3 := by omega
              have h6 := HT6.out hK
              obtain ⟨t5, h5⟩ : ∃ b, (gtF (ab x1) (ab cl) || eqF (ab x1) (ab cl)) = b := ⟨_, rfl⟩
              obtain ⟨t6, h7⟩ : ∃ b, (ltF (ab x1) (ab dr) || eqF (ab x1) (ab dr)) = b := ⟨_, rfl⟩
              rw [h5, h7] at h6
              cases t5
              · obtain ⟨el, h8⟩ : lo = 0 ∧ (gtF (ab x1) (ab en2) || eqF (ab x1) (ab en2)) = true := by
                  rcases h6 with ⟨q, -⟩ | q
                  · cases q
                  · exact q
                subst el
                rw [Bool.or_eq_false_iff] at h5
                obtain ⟨h5a, h5b⟩ := h5
                clear h6
                go_wp2_with (go_at_call 13; (with_reducible refine (C13.out _).mono ?_); rintro e w5 ⟨rfl, HU5⟩)
                go_ret
                exact ⟨rfl, HUF.out.trans HU5.out⟩
              · cases t6
                · obtain ⟨el, h8⟩ : lo = 0 ∧ (gtF (ab x1) (ab en2) || eqF (ab x1) (ab en2)) = true := by
                    rcases h6 with ⟨-, q⟩ | q
                    · cases q
                    · exact q
                  subst el
                  rw [Bool.or_eq_false_iff] at h7
                  obtain ⟨h7a, h7b⟩ := h7
                  clear h6
                  go_wp2_with (go_at_call 13; (with_reducible refine (C13.out _).mono ?_); rintro e w5 ⟨rfl, HU5⟩)
                  go_ret
                  exact ⟨rfl, HUF.out.trans HU5.out⟩
                · clear h6
                  go_wp2_with (go_at_call 13; (with_reducible refine (C13.out _).mono ?_); rintro e w5 ⟨rfl, HU5⟩)
                  go_ret
                  exact ⟨rfl, HUF.out.trans HU5.out⟩
            · have hK2 : (n : Int) < (hi - lo) * 3 := by omega
              go_wp2_with (go_at_call 13; (with_reducible refine (C13.out _).mono ?_); rintro e w5 ⟨rfl, HU5⟩)
              go_ret
              exact ⟨rfl, HUF.out.trans HU5.out⟩
end Go.Proofs.Ytephkmahnbhmbaa

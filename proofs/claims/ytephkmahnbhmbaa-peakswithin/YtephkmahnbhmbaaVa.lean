/- sameSpots, lent, kept. -/
import Derived.Test.YtephkmahnbhmbaaSg
namespace Go.Proofs.Ytephkmahnbhmbaa
open Go.ChangeShapes Go.WideShapes Go.ChangeAt Go.RowKit Go.Fl Go.Sort Go.Shelf Go.Lib Go.Maps
attribute [local go_sem] run_store_float call52 run_neg fold_eq fold_ne fold_lt fold_gt abs_eq
set_option maxRecDepth 20000
/-- Two lists that hold the same. -/
theorem t11 {w : World} {p p' : Option Addr} {n c c' : Nat} {d : Array Spt} (h : SpV w p n c d) (h' : SpV w p' n c' d) : Calls Try.prog 11 #[.slice p n c, .slice p' n c'] w fun e w' => e = .returned (.bool true) ∧ ∃ k, w' = w.drewN k := by
  have hf := h.few
  have H : Hid (SpV w p n c d) := h
  have H' : Hid (SpV w p' n c' d) := h'
  clear h h'
  go_enter Try.func11, Try.ntmps11
  go_wp2
  go_loopw [5] (fun vi wr => ∃ i : Nat, i ≤ n ∧ vi = .int .i64 i ∧ wr.heap = w.heap ∧ Hid (∃ k, wr = w.drewN k)) (fun vi _ => n - (intOf vi).toNat)
  case atStart => exact ⟨0, by omega, rfl, rfl, 0, rfl⟩
  case round =>
    obtain ⟨i, hi, rfl, _, hw⟩ := hrel
    obtain ⟨k, rfl⟩ := hw.out
    by_cases hlt : i < n
    · obtain ⟨b, o, rfl, hr⟩ := H.out.rd (by omega)
      obtain ⟨b', o', rfl, hr'⟩ := H'.out.rd (by omega)
      obtain ⟨x0, x1, x2⟩ : (w.drewN k).cell? ⟨b, o + i * 3, none⟩ = _ ∧ (w.drewN k).cell? ⟨b, o + i * 3 + 1, none⟩ = _ ∧ (w.drewN k).cell? ⟨b, o + i * 3 + 2, none⟩ = _ := hr i hlt
      obtain ⟨y0, y1, y2⟩ : (w.drewN k).cell? ⟨b', o' + i * 3, none⟩ = _ ∧ (w.drewN k).cell? ⟨b', o' + i * 3 + 1, none⟩ = _ ∧ (w.drewN k).cell? ⟨b', o' + i * 3 + 2, none⟩ = _ := hr' i hlt
      have hc := H.out.cap
      have hc' := H'.out.cap
      obtain ⟨s, hs⟩ : ∃ s, d[i]! = s := ⟨_, rfl⟩
      rw [hs] at x0 x1 x2 y0 y1 y2
      clear hr hr' hs
      obtain ⟨s1, s2, s3⟩ := s
      simp only at x0 x1 x2 y0 y1 y2
      have z1 : (i : Int) < (n : Int) := by omega
      have z2 : (0 : Int) ≤ (i : Int) := by omega
      have e1 : (s1 == s1) = true := by simp
      have e2 : (s2 == s2) = true := by simp
      have C20 : Hid (∀ w, Calls Try.prog 20 #[.float .f64 s3, .float .f64 s3] w fun e w' => e = .returned (.bool true) ∧ w' = w) := fun w => by
        have := t20 s3 s3 w
        rwa [beq_self_eq_true] at this
      generalize w.drewN k = wr at *
      go_wp2_with fail
      go_quiet (first | (go_at_call 20; refine Calls.quiet_of_same (C20.out _)))
      go_wp2
      go_roundw
      case rel =>
        obtain ⟨k2, hk2⟩ := hw.out
        exact ⟨i + 1, by omega, by go_num, by rw [hk2]; rfl, k2 + nq, by rw [hk2, World.drewN_drewN]⟩
      case measure => simp [intOf]; omega
    · obtain rfl : i = n := by omega
      go_wp2
      go_ret
      exact ⟨rfl, k, rfl⟩
/-- What was lent: the spots, and the mark behind them. -/
def Lent (w : World) (g c : Nat) (d : Array Spt) : Prop := OwnR w g c (d.push (77, 0, 0))
theorem Lent.up {w w' : World} {g c : Nat} {d : Array Spt} (h : Lent w g c d) (hu : Up w w') : Lent w' g c d := OwnR.up h hu
theorem Lent.view {w : World} {g c n : Nat} {d : Array Spt} (h : Lent w g c d) (hn : d.size = n) (hf : n * 24 ≤ 140737488355328) (hw : ∀ i, i < n → Wf d[i]!) (hb : ∀ i, i < n → (d[i]!).2.2 < 18446744073709551616) : SpV w (some ⟨g, 0, none⟩) n c d := by
  have hle := OwnR.le h
  simp at hle
  refine ⟨hn, by omega, hf, hw, hb, fun _ => ⟨g, 0, rfl, fun i hi => ?_⟩⟩
  have hc := (OwnR.cell h (i := i) (by simp; omega)).1
  have e : (d.push (77, 0, 0))[i]! = d[i]! := by
    rw [getElem!_pos _ i (by simp; omega), getElem!_pos d i (by omega), Array.getElem_push_lt]
  rw [e] at hc
  simpa using hc
theorem t17 {w : World} {p : Option Addr} {n g c cap : Nat} {d : Array Spt} (h : Lent w g c d) (h' : SpV w p n cap d) : Calls Try.prog 17 #[.slice (some ⟨g, 0, none⟩) n c, .slice p n cap] w fun e w' => e = .returned (.bool true) ∧ ∃ k, w' = w.drewN k := by
  have hf := h'.few
  have hv := h.view h'.len h'.few h'.wf h'.fit
  have C11 : Hid (∀ k, Calls Try.prog 11 #[.slice (some ⟨g, 0, none⟩) n c, .slice p n cap] (w.drewN k) fun e w' => e = .returned (.bool true) ∧ ∃ m, w' = (w.drewN k).drewN m) := fun k => t11 (hv.up (Up.drewN _ _)) (h'.up (Up.drewN _ _))
  obtain ⟨⟨c0, c1, c2⟩, -⟩ := OwnR.cell h (i := n) (by simp [h'.len])
  have hle := OwnR.le h
  have hmx := OwnR.most h
  have e : (d.push (77, 0, 0))[n]! = (77, 0, 0) := by
    have hl := h'.len
    subst hl
    simp
  rw [e] at c0 c1 c2
  simp [h'.len] at hle
  have z1 : (n : Int) + 1 ≤ (c : Int) := by omega
  have z2 : (n : Int) < (n : Int) + 1 := by omega
  have z3 : (0 : Int) ≤ (n : Int) + 1 := by omega
  clear h h' hv e
  go_enter Try.func17, Try.ntmps17
  go_wp2_with fail
  refine (C11.out 0).mono ?_
  rintro e w' ⟨rfl, k, hw⟩
  have hw : w' = w.drewN k := hw
  subst w'
  have d0 : (w.drewN k).cell? ⟨g, n * 3, none⟩ = some (.int .i64 77) := c0
  clear c0 c1 c2
  generalize hW : w.drewN k = W at *
  go_wp2
  go_ret
  exact ⟨rfl, k, hW.symm⟩
theorem spots_one (L : List Spt) : ∀ u ∈ L.flatMap spC, u.oneCell' = true := by
  intro u hu
  obtain ⟨s, _, hs⟩ := List.mem_flatMap.1 hu
  exact elC_one (s, 0) u hs
theorem spots_len (L : List Spt) : (L.flatMap spC).length = L.length * 3 := by
  induction L with
  | nil => rfl
  | cons a l ih => simp [List.flatMap_cons, ih, spC]; omega
theorem spots_news {w : World} {b o n : Nat} {d : Array Spt} (hn : d.size = n) (hr : ∀ i, i < n → w.cell? ⟨b, o + i * 3, none⟩ = some (.int .i64 (d[i]!).1) ∧ w.cell? ⟨b, o + i * 3 + 1, none⟩ = some (.int .i64 (d[i]!).2.1) ∧ w.cell? ⟨b, o + i * 3 + 2, none⟩ = some (.float .f64 (d[i]!).2.2)) : ∀ (j : Nat) (u : Value), (d.toList.flatMap spC)[j]? = some u → w.cell? ((⟨b, o, none⟩ : Addr).add j) = some u := by
  intro j u hu
  have hj : j < d.toList.length * 3 := by
    have := (List.getElem?_eq_some_iff.1 hu).1
    rwa [spots_len] at this
  have hi : j / 3 < n := by simp at hj; omega
  obtain ⟨r0, r1, r2⟩ := hr (j / 3) hi
  have e : (⟨b, o, none⟩ : Addr).add j = ⟨b, o + j, none⟩ := by
    unfold Addr.add
    split
    · rename_i hj0; rw [hj0]; rfl
    · rfl
  rw [e]
  have hf := flat_get d.toList (j / 3) (j % 3) (by omega)
  rw [show j / 3 * 3 + j % 3 = j by omega, hu] at hf
  have hg : d.toList[j / 3]? = some d[j / 3]! := by rw [Array.getElem?_toList, Array.getElem?_eq_getElem (by omega), getElem!_pos d (j / 3) (by omega)]
  rw [hg] at hf
  simp only [Option.bind_some] at hf
  rcases (show j % 3 = 0 ∨ j % 3 = 1 ∨ j % 3 = 2 by omega) with h | h | h <;> rw [h] at hf <;> simp [spC] at hf <;> rw [hf]
  · rw [show o + j = o + j / 3 * 3 by omega]; exact r0
  · rw [show o + j = o + j / 3 * 3 + 1 by omega]; exact r1
  · rw [show o + j = o + j / 3 * 3 + 2 by omega]; exact r2
theorem app_sp {w : World} {base m c ty : Nat} {p q : Option Addr} {n cq : Nat} {O : List Spt} {d : Array Spt} (hown : w.ownsRow base 29 3 (.slice p m c) m (O.flatMap spC)) (hv : SpV w q n cq d) (hmn : (m + n) * 24 ≤ 140737488355328) (hbase : base ≤ w.heap.size) :
    ∃ p' c' w', (Builtin.append_ #[25, 25] ty #[.slice p m c, .slice q n cq]).run Try.prog w = .ok (.slice p' (m + n) c') w' ∧ w'.ownsRow base 29 3 (.slice p' (m + n) c') (m + n) ((O ++ d.toList).flatMap spC) ∧ w.grownBy w' (Value.slice p m c).ownBlock ∧ (n = 0 → p' = p ∧ c' = c) := by
  obtain ⟨i0, hi, hz0, hz1, hz2⟩ := info_parts info29
  have hmc : m ≤ c := by
    rcases hown.2 with ⟨e, h0⟩ | ⟨g, c0, cur, e, _, _, h4, _⟩
    · simp only [Value.slice.injEq] at e; omega
    · simp only [Value.slice.injEq] at e; omega
  rcases Nat.eq_zero_or_pos n with rfl | hp
  · have hd : d.toList = [] := by have := hv.len; simpa using this
    refine ⟨p, c, w, ?_, ?_, World.grownBy.refl _ _, fun _ => ⟨rfl, rfl⟩⟩
    · refine run_append_nothing w 25 25 ty 29 i0 Try.underlying25 hi _ m c hmc _ ?_
      cases q with
      | none => exact Src.ofNil w Try.underlying25 cq
      | some a => exact Src.ofSlice w Try.underlying25 a 0 cq [] (by simp) (fun j u h => by simp at h) (fun u h => by cases h)
    · rw [hd, List.append_nil]; exact hown
  · obtain ⟨b, o, rfl, hr⟩ := hv.rd hp
    obtain ⟨g, cap, w', h1, h2, h3, h4, _⟩ := run_append_lies (P := Try.prog) w 25 ty base 29 i0 (.agg #[.int .i64 0, .int .i64 0, .float .f64 0]) 3 24 Try.underlying25 hi hz0 hz1 hz2 rfl (by omega) (.slice p m c) m (O.flatMap spC) hown ⟨b, o, none⟩ n cq (d.toList.flatMap spC) (by rw [spots_len]; simp [hv.len]) (spots_news hv.len hr) (spots_one _) hp (by unfold maxLen; omega) (by omega) hbase w.heap.size rfl
    exact ⟨_, cap, w', h1, by rw [List.flatMap_append]; exact h2, h3, fun h => by omega⟩
theorem wpList_app_sp {ops : Array Oper} {rest : List Oper} {o : Oper} {a : Act} {w : World} {Q : Exit → Act → World → Prop} (hgd : o.guard = none) (s x : Operand)
    (ho : o.op = .call { callee := .builtin .append, args := #[s, x], argTypes := #[25, 25] })
    (base m c : Nat) (p q : Option Addr) (n cq : Nat) (O : List Spt) (d : Array Spt) (hs : a.eval s = .slice p m c) (hx : a.eval x = .slice q n cq) (hown : w.ownsRow base 29 3 (.slice p m c) m (O.flatMap spC)) (hv : SpV w q n cq d) (hmn : (m + n) * 24 ≤ 140737488355328) (hbase : base ≤ w.heap.size)
    (h : ∀ p' c' w', w'.ownsRow base 29 3 (.slice p' (m + n) c') (m + n) ((O ++ d.toList).flatMap spC) → w.grownBy w' (Value.slice p m c).ownBlock → wpList Try.prog ops Q rest (a.put o.dst (.slice p' (m + n) c')) w') : wpList Try.prog ops Q (o :: rest) a w := by
  refine wpList_plain hgd fun K hK => ?_
  obtain ⟨p', c', w', h1, h2, h3, _⟩ := app_sp (ty := o.type) hown hv hmn hbase
  unfold Oper.wp execOp
  simp only [ho, resolve, invoke, builtin, Sem.run_bind, Sem.run_pure, Result.andThen_ok, List.map_toArray, List.map_cons, List.map_nil, hs, hx, h1]
  exact hK _ _ (h p' c' w' h2 h3)
theorem empty_own (w : World) : (w.alloc (.cells #[] 29)).ownsRow w.heap.size 29 3 (.slice (some ⟨w.heap.size, 0, none⟩) 0 0) 0 (([] : List Spt).flatMap spC) :=
  ⟨rfl, Or.inr ⟨w.heap.size, 0, #[], rfl, Nat.le_refl _, heap_alloc_last _ _, Nat.le_refl _, by unfold maxLen; omega, rfl, rfl⟩⟩
theorem lent_own {w2 : World} {b n : Nat} {v2 : Value} {d : Array Spt} (hl : d.size = n) (h : w2.ownsRow b 29 3 v2 (n + 1) (d.toList.flatMap spC ++ [.int .i64 77, .int .i64 0, .float .f64 0])) : ∃ r c, v2 = .slice (some ⟨r, 0, none⟩) (n + 1) c ∧ Hid (Lent w2 r c d) ∧ b ≤ r ∧ n + 1 ≤ c := by
  obtain ⟨p, c, rfl, _⟩ := own_form h
  have e : (d.toList ++ [((77, 0, 0) : Spt)]).flatMap spC = d.toList.flatMap spC ++ [.int .i64 77, .int .i64 0, .float .f64 0] := by rw [List.flatMap_append]; rfl
  have hS : SO b w2 (.slice p (n + 1) c) (d.toList ++ [((77, 0, 0) : Spt)]) := by
    unfold SO
    rw [e, List.length_append, Array.length_toList, hl]; exact h
  obtain ⟨r, rfl, o1, o2, o3⟩ := so_row hS (by simp)
  have ea : (d.toList ++ [((77, 0, 0) : Spt)]).toArray = d.push (77, 0, 0) := by
    apply Array.ext'; simp
  rw [ea] at o1
  refine ⟨r, c, rfl, o1, o2, ?_⟩
  have := OwnR.le o1
  simp at this
  omega
theorem lent_up {w w1 w2 : World} {o : Obj} {p1 : Option Addr} {n c1 : Nat} {xs : List Value} (h1 : (w.alloc (.cells #[] 29)).grownBy w1 (Value.slice (some ⟨w.heap.size, 0, none⟩) 0 0).ownBlock) (ho : w1.ownsRow w.heap.size 29 3 (.slice p1 n c1) n xs) (h2 : (w1.alloc o).grownBy w2 (Value.slice p1 n c1).ownBlock) : Up w w2 := by
  have k1 : Kp (fun k => k < w.heap.size) w w1 := (Kp.of_up (Up.alloc _ _)).trans (grown_kp h1 (fun r hr hlt => by
    have hr' : some w.heap.size = some r := hr
    simp at hr'
    omega))
  have k2 : Kp (fun k => k < w.heap.size) w1 w2 := (Kp.of_up (Up.alloc _ _)).trans (grown_kp h2 (fun r hr hlt => by
    have := (ho.lt r hr).1
    omega))
  exact (k1.trans k2).up (fun k hk => hk)
/-- Spots lent. -/
theorem t14 {w : World} {p : Option Addr} {n cap : Nat} {d : Array Spt} (h : SpV w p n cap d) (hf1 : (n + 1) * 24 ≤ 140737488355328) : Calls Try.prog 14 #[.slice p n cap] w fun e w' => ∃ g c, e = .returned (.slice (some ⟨g, 0, none⟩) n c) ∧ Hid (Lent w' g c d ∧ w.heap.size ≤ g) ∧ Hid (Up w w') := by
  have hf := h.few
  have HV : Hid (SpV (w.alloc (.cells #[] 29)) p n cap d) := h.up (Up.alloc _ _)
  have hl := h.len
  obtain ⟨i0, hi0, hz0, hz1, hz2⟩ := info_parts info29
  have hO := empty_own w
  clear h
  have hmt : ∀ W : World, (storeCells ⟨w.heap.size, 0, none⟩ (#[] : Array Value).toList).run Try.prog W = .ok () W := fun W => rfl
  go_enter Try.func14, Try.ntmps14
  go_wp2_with (first
    | ((fail_if_success have := hgrow1); at_builtin; refine wpList_app_sp rfl _ _ rfl w.heap.size 0 0 (some ⟨w.heap.size, 0, none⟩) p n cap [] d rfl rfl hO HV.out (by omega) (by simp) ?_; intro p1 c1 w1 hown1 hgrow1; simp only [Nat.zero_add, List.nil_append] at hown1; (have hg1 := hgrow1.size))
    | (at_builtin; refine wpList_append_own_at _ rfl _ _ 25 rfl w.heap.size 29 i0 (.agg #[.int .i64 0, .int .i64 0, .float .f64 0]) 3 24 Try.underlying25 hi0 hz0 hz1 hz2 rfl (by decide) _ _ _ rfl (hown1.alloc _) ⟨w1.heap.size, 0, none⟩ 1 1 [.int .i64 77, .int .i64 0, .float .f64 0] rfl rfl (three_at _ _ _ _ _ (by simp)) (three_one rfl rfl rfl) (by unfold maxLen; omega) hf1 (by simp at hg1 ⊢; omega) ?_; intro v2 w2 hown2 hgrow2 hnil2 hat2; (obtain ⟨r2, c2, hv2, HL2, hb2, hc2⟩ := lent_own hl hown2); subst hv2; (have HU2 : Hid (Up w w2) := lent_up hgrow1 hown1 hgrow2); (have z1 : (n : Int) ≤ (c2 : Int) := by omega); clear hown2 hgrow2 hnil2 hat2 hown1 hgrow1))
  go_ret
  exact ⟨r2, c2, rfl, ⟨HL2.out, hb2⟩, HU2⟩
end Go.Proofs.Ytephkmahnbhmbaa

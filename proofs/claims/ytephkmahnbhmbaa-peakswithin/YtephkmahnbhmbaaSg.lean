/- Closed calls; wakes. -/
import Derived.Test.YtephkmahnbhmbaaSf
import Derived.Test.YtephkmahnbhmbaaRi
import Derived.Test.YtephkmahnbhmbaaPg
import Derived.Test.YtephkmahnbhmbaaSa
namespace Go.Proofs.Ytephkmahnbhmbaa
open Go.ChangeShapes Go.WideShapes Go.ChangeAt Go.RowKit Go.Fl Go.Sort Go.Shelf Go.Lib Go.Maps
attribute [local go_sem] run_store_float call52 run_neg fold_eq fold_ne fold_lt fold_gt abs_eq
set_option maxRecDepth 20000
def wkM (i : Nat) : Array Nat := if i = 0 then #[4607182418800017408, 4613937818241073152, 4607182418800017408] else if i = 1 then #[0, 4613937818241073152, 0] else #[0, 0, 4617315517961601024]
def wkG : Array Spt := #[(0, 5, 0), (9, 6, 0), (4, 4, 0)]
def wkC : Array Spt := #[(0, 5, 4607182418800017408), (9, 5, 4607182418800017408)]
theorem wk_high : highF wkM 3 = [(2, 2, 4617315517961601024)] := by kernel_rfl
theorem wk_short : shortF wkM 3 = 3 := by kernel_rfl
theorem wk_grp : (grpN 10 (cntF (keptN wkG 10 3)) (cntF (keptN wkG 10 3)).length).1 = [[(0, 5, 0), (9, 6, 0)], [(4, 4, 0)]] := by kernel_rfl
theorem wk_cent : centF wkC 2 10 = (some 4621537642612260864, some 4617315517961601024, some 4611686018427387904) := by kernel_rfl
theorem eql29 (w : World) : (binOp .eql 29 (.agg #[.int .i64 2, .int .i64 2, .float .f64 4617315517961601024]) (.agg #[.int .i64 2, .int .i64 2, .float .f64 4617315517961601024])).run Try.prog w = .ok (.bool true) w := by kernel_rfl
theorem eql39 (w : World) : (binOp .eql 39 (.agg #[.float .f64 4621537642612260864, .float .f64 4617315517961601024, .float .f64 4611686018427387904, .int .i64 2]) (.agg #[.float .f64 4621537642612260864, .float .f64 4617315517961601024, .float .f64 4611686018427387904, .int .i64 2])).run Try.prog w = .ok (.bool true) w := by kernel_rfl
theorem guard29 : Try.prog.eqGuardType Try.prog.depth 29 = false := by kernel_rfl
theorem guard39 : Try.prog.eqGuardType Try.prog.depth 39 = false := by kernel_rfl
theorem eqg29 (op : BinOp) (x y : Operand) (xs ys : Array Value) (w : World) : (eqGuard op 29 x y (.agg xs) (.agg ys)).run Try.prog w = .ok () w := run_eqGuard_agg w op 29 x y xs ys guard29
theorem eqg39 (op : BinOp) (x y : Operand) (xs ys : Array Value) (w : World) : (eqGuard op 39 x y (.agg xs) (.agg ys)).run Try.prog w = .ok () w := run_eqGuard_agg w op 39 x y xs ys guard39
attribute [local go_sem] eqg29 eqg39
/-- A row of floats that was laid anew. -/
theorem SV.lit {w : World} {b : Nat} {l : List Nat} {t : TypeId} {fr : Nat × Nat} (h : w.heap[b]? = some (.cells (l.map fe).toArray t fr)) (hf : l.all (fun x => decide (x < 2 ^ 64)) = true) : SV w (some ⟨b, 0, none⟩) l.length l.length l.toArray :=
  ⟨by simp, Nat.le_refl _, fun i hi => by
    have hi' : i < l.length := by simpa using hi
    rw [List.all_eq_true] at hf
    have := hf l[i] (List.getElem_mem hi')
    rw [getElem!_pos l.toArray i hi]; simpa using this, fun _ => ⟨b, 0, rfl, fun i hi => by
    have hi' : i < l.length := by simpa using hi
    rw [cell_of_row _ _ _ _ _ _ h]
    simp [fe, hi']⟩⟩
/-- Spots that were laid anew. -/
theorem SpV.lit {w : World} {b n : Nat} {d : Array Spt} {cs : Array Value} {t : TypeId} {fr : Nat × Nat} (h : w.heap[b]? = some (.cells cs t fr)) (hn : d.size = n) (hf : n * 24 ≤ 140737488355328) (hw : ∀ i, i < n → Wf d[i]! ∧ (d[i]!).2.2 < 18446744073709551616) (hc : ∀ i, i < n → cs[i * 3]? = some (.int .i64 (d[i]!).1) ∧ cs[i * 3 + 1]? = some (.int .i64 (d[i]!).2.1) ∧ cs[i * 3 + 2]? = some (.float .f64 (d[i]!).2.2)) : SpV w (some ⟨b, 0, none⟩) n n d :=
  ⟨hn, Nat.le_refl _, hf, fun i hi => (hw i hi).1, fun i hi => (hw i hi).2, fun _ => ⟨b, 0, rfl, fun i hi => by
    obtain ⟨h1, h2, h3⟩ := hc i hi
    simp only [Nat.zero_add]
    exact ⟨by rw [cell_of_row _ _ _ _ _ _ h]; exact h1, by rw [cell_of_row _ _ _ _ _ _ h]; exact h2, by rw [cell_of_row _ _ _ _ _ _ h]; exact h3⟩⟩⟩
theorem four_boxes (w : World) (a b c d : Array Value) (s t u v : TypeId) : let W := (((w.alloc (.cells a s)).alloc (.cells b t)).alloc (.cells c u)).alloc (.cells d v)
    W.heap[w.heap.size]? = some (.cells a s (0, 0)) ∧ W.heap[w.heap.size + 1]? = some (.cells b t (0, 0)) ∧ W.heap[w.heap.size + 1 + 1]? = some (.cells c u (0, 0)) ∧ W.heap[w.heap.size + 1 + 1 + 1]? = some (.cells d v (0, 0)) := by
  intro W
  obtain ⟨k1, k2⟩ := two_boxes w a b s t
  have hu : Up ((w.alloc (.cells a s)).alloc (.cells b t)) W := (Up.alloc _ _).trans (Up.alloc _ _)
  obtain ⟨k3, k4⟩ := two_boxes ((w.alloc (.cells a s)).alloc (.cells b t)) c d u v
  rw [show ((w.alloc (.cells a s)).alloc (.cells b t)).heap.size = w.heap.size + 1 + 1 by simp] at k3 k4
  exact ⟨by rw [RowKit.Below.block hu _ (Array.getElem?_eq_some_iff.1 k1).1]; exact k1, by rw [RowKit.Below.block hu _ (Array.getElem?_eq_some_iff.1 k2).1]; exact k2, k3, k4⟩
/-- The cells of a row of one's own. -/
theorem owns_cell {b n : Nat} {w : World} {t : TypeId} {p : Option Addr} {c m : Nat} {xs : List Value} (h : w.ownsRow b t 1 (.slice p m c) n xs) (hn : 0 < n) : ∃ g, p = some ⟨g, 0, none⟩ ∧ m = n ∧ ∀ i x, xs[i]? = some x → w.cell? ⟨g, i, none⟩ = some x := by
  obtain ⟨h1, h2⟩ := h
  rcases h2 with ⟨_, h0⟩ | ⟨g, cap, cur, e, k2, k3, k4, k5, k6, k7⟩
  · omega
  · simp only [Value.slice.injEq] at e
    obtain ⟨rfl, rfl, rfl⟩ := e
    refine ⟨g, rfl, rfl, fun i x hx => ?_⟩
    rw [cell_of_row _ _ _ _ _ _ k3]
    have hi : i < xs.length := (List.getElem?_eq_some_iff.1 hx).1
    have t := congrArg (fun l => l[i]?) k7
    simp only [List.getElem?_take] at t
    rw [if_pos (by omega), hx] at t
    rw [← Array.getElem?_toList]; exact t
/-- The rows of a map that was laid anew. -/
theorem MV.lit {w : World} {b n : Nat} {D : Nat → Array Nat} {cs : Array Value} {t : TypeId} {fr : Nat × Nat} (h : w.heap[b]? = some (.cells cs t fr)) (hs : n ≤ 1152921504606846976) (hD : ∀ i, i < n → (D i).size ≤ 1152921504606846976) (hc : ∀ i, i < n → ∃ q c, cs[i]? = some (.slice q (D i).size c) ∧ SV w q (D i).size c (D i)) : MV w (some ⟨b, 0, none⟩) n n D :=
  ⟨Nat.le_refl _, fun _ => ⟨b, 0, rfl, fun i hi => by
    obtain ⟨q, c, h1, h2⟩ := hc i hi
    exact ⟨q, c, by rw [cell_of_row _ _ _ _ _ _ h, Nat.zero_add]; exact h1, h2⟩⟩, hD, hs⟩
/-- A list that a call handed back, in memory of its own. -/
def HL (w : World) (L : List Spt) (e : Ending) (w' : World) : Prop := ∃ r c, e = .returned (.slice (some ⟨r, 0, none⟩) L.length c) ∧ Hid (OwnR w' r c L.toArray ∧ w.heap.size ≤ r) ∧ Hid (Up w w')
theorem SR.hl {w : World} {L : List Spt} {e : Ending} {w' : World} (h : SR w L e w') (h0 : 0 < L.length) : HL w L e w' := by
  obtain ⟨p, c, rfl, h1, h2⟩ := h
  obtain ⟨r, rfl, o1, o2, _⟩ := so_row h1.out h0
  exact ⟨r, c, rfl, ⟨o1, o2⟩, h2⟩
theorem HL.of {w0 w : World} {L : List Spt} {e : Ending} {w' : World} (h : HL w L e w') (hu : Up w0 w) : HL w0 L e w' := by
  obtain ⟨r, c, e, h1, h2⟩ := h
  exact ⟨r, c, e, ⟨h1.out.1, Nat.le_trans (RowKit.Below.size hu) h1.out.2⟩, hu.trans h2.out⟩
theorem wk9 (w : World) : Calls Try.prog 9 #[.slice (some ⟨w.heap.size + 1 + 1 + 1, 0, none⟩) 3 3] ((((w.alloc (.cells #[.float .f64 4607182418800017408, .float .f64 4613937818241073152, .float .f64 4607182418800017408] 24)).alloc (.cells #[.float .f64 0, .float .f64 4613937818241073152, .float .f64 0] 24)).alloc (.cells #[.float .f64 0, .float .f64 0, .float .f64 4617315517961601024] 24)).alloc (.cells #[.slice (some ⟨w.heap.size, 0, none⟩) 3 3, .slice (some ⟨w.heap.size + 1, 0, none⟩) 3 3, .slice (some ⟨w.heap.size + 1 + 1, 0, none⟩) 3 3] 23)) (HL w [(2, 2, 4617315517961601024)]) := by
  obtain ⟨k1, k2, k3, k4⟩ := four_boxes w #[.float .f64 4607182418800017408, .float .f64 4613937818241073152, .float .f64 4607182418800017408] #[.float .f64 0, .float .f64 4613937818241073152, .float .f64 0] #[.float .f64 0, .float .f64 0, .float .f64 4617315517961601024] #[.slice (some ⟨w.heap.size, 0, none⟩) 3 3, .slice (some ⟨w.heap.size + 1, 0, none⟩) 3 3, .slice (some ⟨w.heap.size + 1 + 1, 0, none⟩) 3 3] 24 24 24 23
  have hm := MV.lit (n := 3) (D := wkM) k4 (by decide) (fun i hi => by rcases i with _ | _ | _ | _ <;> first | decide | omega) (fun i hi => by
    rcases i with _ | _ | _ | _
    · exact ⟨_, _, rfl, SV.lit (l := [4607182418800017408, 4613937818241073152, 4607182418800017408]) k1 (by decide)⟩
    · exact ⟨_, _, rfl, SV.lit (l := [0, 4613937818241073152, 0]) k2 (by decide)⟩
    · exact ⟨_, _, rfl, SV.lit (l := [0, 0, 4617315517961601024]) k3 (by decide)⟩
    · omega)
  refine (t9 hm (by rw [wk_short]; decide)).mono ?_
  intro e w' h
  rw [wk_high] at h
  exact (h.hl (by decide)).of (((Up.alloc _ _).trans (Up.alloc _ _)).trans ((Up.alloc _ _).trans (Up.alloc _ _)))
/-- The groups that a call handed back, each in memory of its own. -/
def GL (w : World) (Gs : List (List Spt)) (e : Ending) (w' : World) : Prop := ∃ (g c : Nat) (A C : Nat → Nat), e = .returned (.slice (some ⟨g, 0, none⟩) Gs.length c) ∧ Hid (∀ a, a < Gs.length → w'.cell? ⟨g, a, none⟩ = some (.slice (some ⟨A a, 0, none⟩) (Gs[a]!).length (C a)) ∧ OwnR w' (A a) (C a) (Gs[a]!).toArray) ∧ Hid (Up w w')
theorem GRes.gl {w : World} {Gs : List (List Spt)} {e : Ending} {w' : World} (h : GRes w Gs e w') (h0 : 0 < Gs.length) : GL w Gs e w' := by
  obtain ⟨p, c, A, C, D, rfl, h1, h2⟩ := h
  obtain ⟨gt, hD⟩ := h1.out
  obtain ⟨g, rfl, _, hc⟩ := owns_cell gt.own h0
  refine ⟨g, c, A, C, rfl, fun a ha => ⟨?_, ?_⟩, h2⟩
  · rw [← hD a ha]
    refine hc a _ ?_
    rw [List.getElem?_map, List.getElem?_range ha]; rfl
  · rw [← hD a ha]; exact (gt.row a ha).1
theorem GL.of {w0 w : World} {Gs : List (List Spt)} {e : Ending} {w' : World} (h : GL w Gs e w') (hu : Up w0 w) : GL w0 Gs e w' := by
  obtain ⟨g, c, A, C, e, h1, h2⟩ := h
  exact ⟨g, c, A, C, e, h1, hu.trans h2.out⟩
theorem wf_lit {s : Spt} (h : (decide (-9223372036854775808 ≤ s.1) && decide (s.1 ≤ 9223372036854775807) && decide (-9223372036854775808 ≤ s.2.1) && decide (s.2.1 ≤ 9223372036854775807)) = true) : Wf s := by
  simp only [Bool.and_eq_true, decide_eq_true_eq] at h
  obtain ⟨⟨⟨h1, h2⟩, h3⟩, h4⟩ := h
  exact ⟨⟨h1, h2⟩, h3, h4⟩
theorem wk15 (w : World) : Calls Try.prog 15 #[.slice (some ⟨w.heap.size, 0, none⟩) 3 3, .int .i64 10] (w.alloc (.cells #[.int .i64 0, .int .i64 5, .float .f64 0, .int .i64 9, .int .i64 6, .float .f64 0, .int .i64 4, .int .i64 4, .float .f64 0] 29)) (GL w [[(0, 5, 0), (9, 6, 0)], [(4, 4, 0)]]) := by
  have hs := SpV.lit (n := 3) (d := wkG) (heap_alloc_last w (.cells #[.int .i64 0, .int .i64 5, .float .f64 0, .int .i64 9, .int .i64 6, .float .f64 0, .int .i64 4, .int .i64 4, .float .f64 0] 29)) rfl (by decide) (fun i hi => by rcases i with _ | _ | _ | _ <;> first | exact ⟨wf_lit (by decide), by decide⟩ | omega) (fun i hi => by rcases i with _ | _ | _ | _ <;> first | exact ⟨rfl, rfl, rfl⟩ | omega)
  refine (t15 (bins := 10) (fun m hm => sorts_few (by omega)) hs (by decide)).mono ?_
  intro e w' h
  rw [wk_grp] at h
  exact (h.gl (by decide)).of (Up.alloc _ _)
/-- A middle that a call handed back. -/
def CL (w : World) (n x y z : Nat) (e : Ending) (w' : World) : Prop := e = .returned (.agg #[.float .f64 x, .float .f64 y, .float .f64 z, .int .i64 n]) ∧ Hid (Up w w')
theorem CR.cl {w w0 : World} {n x y z : Nat} {c : Option Nat × Option Nat × Option Nat} {e : Ending} {w' : World} (h : CR w n c e w') (hc : c = (some x, some y, some z)) (hu : Up w0 w) : CL w0 n x y z e w' := by
  obtain ⟨x', y', z', rfl, h1, h2⟩ := h
  obtain ⟨e1, e2, e3⟩ := h1.out
  rw [hc] at e1 e2 e3
  obtain rfl := of_ab e1
  obtain rfl := of_ab e2
  obtain rfl := of_ab e3
  exact ⟨rfl, hu.trans h2.out⟩
theorem wk18 (w : World) : Calls Try.prog 18 #[.slice (some ⟨w.heap.size, 0, none⟩) 2 2, .int .i64 10] (w.alloc (.cells #[.int .i64 0, .int .i64 5, .float .f64 4607182418800017408, .int .i64 9, .int .i64 5, .float .f64 4607182418800017408] 29)) (CL w 2 4621537642612260864 4617315517961601024 4611686018427387904) := by
  have hs := SpV.lit (n := 2) (d := wkC) (heap_alloc_last w (.cells #[.int .i64 0, .int .i64 5, .float .f64 4607182418800017408, .int .i64 9, .int .i64 5, .float .f64 4607182418800017408] 29)) rfl (by decide) (fun i hi => by rcases i with _ | _ | _ <;> first | exact ⟨wf_lit (by decide), by decide⟩ | omega) (fun i hi => by rcases i with _ | _ | _ <;> first | exact ⟨rfl, rfl, rfl⟩ | omega)
  exact (t18 10 hs).mono (fun e w' h => h.cl wk_cent (Up.alloc _ _))
set_option maxHeartbeats 4000000 in
theorem t13 (w : World) : Calls Try.prog 13 #[] w fun e w' => e = .returned (.bool true) ∧ Hid (Up w w') := by
  have H29 := eql29
  have H39 := eql39
  go_enter Try.func13, Try.ntmps13
  go_wp2_with fail
  with_reducible refine (wk9 w).mono ?_
  rintro e w1 ⟨r1, cc1, rfl, HO1, HU1⟩
  go_wp2_with fail
  with_reducible refine (wk15 w1).mono ?_
  rintro e w2 ⟨g, cg, A, C, rfl, HG, HU2⟩
  go_wp2_with fail
  with_reducible refine (wk18 w2).mono ?_
  rintro e w3 ⟨rfl, HU3⟩
  have HU4 : Hid (Up w2 (w3.alloc (.cells #[.float .f64 4621537642612260864, .float .f64 4617315517961601024, .float .f64 4611686018427387904, .int .i64 2] 39))) := HU3.out.trans (Up.alloc _ _)
  have HU5 : Hid (Up w (w3.alloc (.cells #[.float .f64 4621537642612260864, .float .f64 4617315517961601024, .float .f64 4611686018427387904, .int .i64 2] 39))) := HU1.out.trans (HU2.out.trans HU4.out)
  obtain ⟨⟨a0, a1, a2⟩, -⟩ := (HO1.out.1.up (HU2.out.trans HU4.out)).cell (i := 0) (by decide)
  obtain ⟨g0, o0⟩ := HG.out 0 (by decide)
  obtain ⟨g1, o1⟩ := HG.out 1 (by decide)
  have g0 := cell_up g0 HU4.out
  have g1 := cell_up g1 HU4.out
  obtain ⟨⟨b0, b1, b2⟩, -⟩ := (o0.up HU4.out).cell (i := 1) (by decide)
  obtain ⟨m0, m1, m2, m3⟩ := (row4_cells (a := 4621537642612260864) (b := 4617315517961601024) (c := 4611686018427387904) (n := 2) (heap_alloc_last w3 (row4 4621537642612260864 4617315517961601024 4611686018427387904 2))).1
  clear o0 o1 HG HO1 HU1 HU2 HU3 HU4
  simp only [row4, List.getElem!_toArray, List.getElem!_cons_zero, List.getElem!_cons_succ, List.length_cons, List.length_nil, Nat.zero_mul, Nat.one_mul, Nat.zero_add, Nat.reduceAdd] at a0 a1 a2 g0 g1 b0 b1 b2 m0 m1 m2 m3
  go_wp2_with (go_at_call 21; (with_reducible refine (t21 _ _ _ _).mono ?_); rintro e w4 ⟨rx, kx, rfl, hw, HX⟩; subst w4)
  have hb : eqF (ab rx) (ab 0) = true := by rw [HX.out]; kernel_rfl
  rw [hb]
  go_ret
  exact ⟨rfl, HU5.out.trans (Up.drewN _ _)⟩
end Go.Proofs.Ytephkmahnbhmbaa

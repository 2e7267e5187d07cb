/- A stream of a pulse of two: Feed of two, End. -/
import Derived.Test.YtfimolhndbfpgaaMd
namespace Go.Proofs.Ytfimolhndbfpgaa
open Go.ChangeShapes Go.WideShapes Go.ChangeAt Go.RowKit Go.Fl Ieee
attribute [local go_sem] run_store_float run_store_c isSome_set call29 call28 run_neg fold_eq fold_ne fold_lt fold_gt abs_eq

/-- An append into a row of two that holds none yet, of two. -/
theorem step_fits2 {ops : Array Oper} {o : Oper} {a : Act} {w : World} {K : Act → World → Prop} {Q : Exit → Act → World → Prop} {E : Prop} {b0 g lg lo c : Nat} {d : List (Nat × Nat)} {f : Nat → Nat × Nat} (hg : o.guard = none) (s x : Operand)
    (hop : o.op = Op.call { callee := Callee.builtin Builtin.append, args := #[s, x], argTypes := #[27, 27] }) (hs : a.eval s = .slice (some ⟨g, 0, none⟩) 0 2) (hx : a.eval x = .slice (some ⟨lg, lo, none⟩) 2 c)
    (hC : Hid (CRow b0 w (.slice (some ⟨g, 0, none⟩) 2 2) d)) (hR : Hid (RD w lg lo 2 f))
    (h : ∀ w', Hid (CRow b0 w' (.slice (some ⟨g, 0, none⟩) 2 2) (cut f 0 2)) → Hid (But g w w') → K (a.put o.dst (.slice (some ⟨g, 0, none⟩) 2 2)) w') :
    if Region.wanted o (yielded ops a.tmps) = true then Oper.wp Try.prog o a w K Q else E := by
  have hw : Region.wanted o (yielded ops a.tmps) = true := by simp [Region.wanted, hg]
  rw [if_pos hw]
  obtain ⟨i0, hi, hz0, hz1, hz2⟩ := info_parts info26
  have hown : w.ownsRow b0 28 1 (.slice (some ⟨g, 0, none⟩) 0 2) 0 [] := by
    rcases hC.out.2 with ⟨h2, _⟩ | ⟨g0, cap0, cur, e, k2, k3, k4, k5, k6, k7⟩
    · cases h2
    · simp only [Value.slice.injEq, Option.some.injEq, Addr.mk.injEq] at e
      obtain ⟨⟨rfl, _⟩, e2, rfl⟩ := e
      exact ⟨by simp, Or.inr ⟨_, _, cur, rfl, k2, k3, by omega, k5, k6, by simp⟩⟩
  obtain ⟨w', e, h1, h2⟩ := run_append_fits (P := Try.prog) w b0 27 o.type 28 i0 1 Try.underlying27 hi hz1 g 0 2 [] hown ⟨lg, lo, none⟩ 2 c ((cut f 0 2).map ce) (by simp [cut_len]) (src_ok (o := 0) hR.out (by omega)) ce_one (by omega)
  unfold Oper.wp
  simp [execOp, hop, resolve, invoke, builtin, hs, hx, e, Result.andThen]
  exact h w' (by show w'.ownsRow _ _ _ _ _ _; simpa [cut_len] using h1) h2
theorem ST.but {b0 : Nat} {w w' : World} {b gp cp gr n : Nat} {P d d' : List (Nat × Nat)} {k : Nat} (h : ST b0 w b gp cp gr n P d k) (hb : But gr w w') (hr : CRow b0 w' (.slice (some ⟨gr, 0, none⟩) n n) d') : ST b0 w' b gp cp gr n P d' k :=
  ⟨h.lo, h.n1, h.n2, h.n3, hb.cell h.n1 h.c0, hb.cell h.n1 h.c1, hb.cell h.n1 h.c2, (World.grownBy.frozen_far hb ⟨b, 2, none⟩ (World.block_lt_of_cell? w _ h.c2) (by simpa using h.n1)).trans h.fz, h.pul.far hb h.n2, hr⟩
theorem ST.up {b0 : Nat} {w w' : World} {b gp cp gr n : Nat} {P d : List (Nat × Nat)} {k : Nat} (h : ST b0 w b gp cp gr n P d k) (hu : Up w w') : ST b0 w' b gp cp gr n P d k := h.but (But.of_up hu) (h.room.up hu)
theorem grown_setCell (w : World) (a : Addr) (u : Value) : w.grownBy (w.setCell a u) (some a.block) :=
  ⟨rfl, rfl, rfl, by simp, fun k _ hne => heap_setCell_other w a k u (fun e => hne (by rw [e]))⟩
theorem ST.put {b0 : Nat} {w : World} {b gp cp gr n : Nat} {P d : List (Nat × Nat)} {k k' : Nat} (h : ST b0 w b gp cp gr n P d k) : ST b0 (w.setCell ⟨b, 2, none⟩ (.int .i64 k')) b gp cp gr n P d k' ∧ But b w (w.setCell ⟨b, 2, none⟩ (.int .i64 k')) := by
  have hB : But b w (w.setCell ⟨b, 2, none⟩ (.int .i64 k')) := grown_setCell _ _ _
  refine ⟨⟨h.lo, h.n1, h.n2, h.n3, ?_, ?_, World.cell?_setCell_same _ _ _ h.c2, ?_, h.pul.far hB (Ne.symm h.n3), h.room.far hB (Ne.symm h.n1)⟩, hB⟩
  · rw [World.cell?_setCell_other _ _ _ _ (by simp)]; exact h.c0
  · rw [World.cell?_setCell_other _ _ _ _ (by simp)]; exact h.c1
  · rw [World.frozen?_setCell]; exact h.fz
theorem st_keep {b0 : Nat} {w w' : World} {b gp cp gr n : Nat} {P d : List (Nat × Nat)} {k : Nat} (H : Hid (ST b0 w b gp cp gr n P d k)) (HB : Hid (But gr w w')) : w'.cell? ⟨b, 1, none⟩ = some (.slice (some ⟨gr, 0, none⟩) n n) ∧ (w'.cell? ⟨b, 2, none⟩).isSome = true ∧ w'.frozen? ⟨b, 2, none⟩ = false := by
  have h := H.out
  have hb := HB.out
  refine ⟨hb.cell h.n1 h.c1, ?_, (World.grownBy.frozen_far hb ⟨b, 2, none⟩ (World.block_lt_of_cell? w _ h.c2) (by simpa using h.n1)).trans h.fz⟩
  rw [hb.cell h.n1 h.c2]; rfl
theorem st_set {w' : World} {b : Nat} {v u : Value} (h : w'.cell? ⟨b, 1, none⟩ = some u) : (w'.setCell ⟨b, 2, none⟩ v).cell? ⟨b, 1, none⟩ = some u := by rw [World.cell?_setCell_other _ _ _ _ (by simp)]; exact h
theorem row_form {b : Nat} {w' : World} {v : Value} {n : Nat} {d : List (Nat × Nat)} (h : CRow b w' v d) (hn : d.length = n) (h0 : 0 < n) : ∃ g cap, v = .slice (some ⟨g, 0, none⟩) n cap ∧ n ≤ cap := by
  subst hn
  rcases h.2 with ⟨rfl, h2⟩ | ⟨g, cap, cur, rfl, _, _, hc, _⟩
  · omega
  · exact ⟨g, cap, rfl, hc⟩
/-- What Feed of two leaves to a stream of two to which none came. -/
def FD (w0 w : World) (b gp cp gr : Nat) (P : List (Nat × Nat)) (f : Nat → Nat × Nat) (e : Ending) (w' : World) : Prop :=
  ∃ g cap d1 d', e = .returned (.slice (some ⟨g, 0, none⟩) 1 cap) ∧ Hid (CRow w.heap.size w' (.slice (some ⟨g, 0, none⟩) 1 cap) d1) ∧ Hid (d1.map ab2 = (List.range 1).map (heldF (fun i => (cut f 0 2)[i]!) 2 (fun i => P[i]!) 2)) ∧ Hid (ST w0.heap.size w' b gp cp gr 2 P d' 1 ∧ d'[0]! = f 1) ∧ Hid (Up w0 w')
theorem feed_held {w0 w : World} {b gp cp gr : Nat} {P d : List (Nat × Nat)} {k : Nat} (h : Hid (ST w0.heap.size w b gp cp gr 2 P d k)) : Calls Try.prog 23 #[.slice (some ⟨gr, 0, none⟩) 2 2, .slice (some ⟨gp, 0, none⟩) 2 cp, .int .i64 1] w (HL w ((List.range 1).map (heldF (fun i => d[i]!) 2 (fun i => P[i]!) 2))) :=
  t23 gr 0 2 2 gp 0 2 cp 1 _ _ w (rd_take h.out.room (Nat.le_refl _)) (rd_take h.out.pul (Nat.le_refl _)) (by omega) (by omega) (by omega) (by omega)
set_option maxHeartbeats 1000000 in
theorem t14 {w0 w : World} {b gp cp gr : Nat} {P d : List (Nat × Nat)} (h : ST w0.heap.size w b gp cp gr 2 P d 0) (hu : Up w0 w) (lg lo c : Nat) (f : Nat → Nat × Nat) (hR : RD w lg lo 2 f) : Calls Try.prog 14 #[.pointer (some ⟨b, 0, none⟩), .slice (some ⟨lg, lo, none⟩) 2 c] w (FD w0 w b gp cp gr P f) := by
  have H : Hid (ST w0.heap.size w b gp cp gr 2 P d 0) := h
  have HU : Hid (Up w0 w) := hu
  have HR : Hid (RD w.drew lg lo 2 f) := hR.up (Up.drew _)
  have HC : Hid (CRow w0.heap.size w.drew (.slice (some ⟨gr, 0, none⟩) 2 2) d) := h.room.up (Up.drew _)
  have c0 := h.c0
  have c1 := h.c1
  have c2 : w.cell? ⟨b, 2, none⟩ = some (.int .i64 0) := h.c2
  have N1 : Hid (b ≠ gr) := h.n1
  clear h hu hR
  go_enter Try.func14, Try.ntmps14
  go_wp2_with (go_at_call 37; (with_reducible refine (t37 H.out (by omega) (by omega)).mono ?_); rintro e w' ⟨rfl, rfl⟩)
  go_region_held3 (fun W => W.cell? ⟨b, 1, none⟩ = some (.slice (some ⟨gr, 0, none⟩) 2 2) ∧ W.cell? ⟨b, 2, none⟩ = some (.int .i64 0)) (first | go_keep | exact ⟨HB1.out.cell N1.out c1, HB1.out.cell N1.out c2⟩) ((refine step_fits2 (by rfl) _ _ (by rfl) (by rfl) (by rfl) HC HR ?_; intro w1 HC1 HB1))
  have H1 : Hid (ST w0.heap.size w1 b gp cp gr 2 P (cut f 0 2) 0) := (H.out.up (Up.drew _)).but HB1.out HC1.out
  have S1 : Hid (w'.heap.size ≤ w1.heap.size) := (show w'.drew.heap.size ≤ w1.heap.size from World.grownBy.size HB1.out)
  have U1 : Hid (Up w0 w1) := HB1.out.up (HU.out.trans (Up.drew _)) (World.ownsRow.lt H.out.room _ rfl).1
  have d0 := H1.out.c0
  have d1 := H1.out.c1
  clear HC HC1 HB1 HR c0 c1 c2 H
  go_wp2_with (go_at_call 23; (with_reducible refine (feed_held H1).mono ?_); rintro e w2 ⟨v, dv, rfl, h3, h4, h5⟩)
  have H2 : Hid (ST w0.heap.size w2.drew b gp cp gr 2 P (cut f 0 2) 0) := (H1.out.up h4.out).up (Up.drew _)
  have HG : Hid (w2.drew.heap[gr]? = some (.cells ((cut f 0 2).map ce).toArray 28 (0, 0))) := H2.out.room.heap
  have HR2 : Hid (RD w2.drew gr 0 2 (fun i => (cut f 0 2)[i]!)) := rd_take H2.out.room (Nat.le_refl _)
  have e1 : w2.cell? ⟨b, 1, none⟩ = some (.slice (some ⟨gr, 0, none⟩) 2 2) := H2.out.c1
  have e2 : (w2.cell? ⟨b, 2, none⟩).isSome = true := by
    have := H2.out.c2
    rw [show w2.cell? ⟨b, 2, none⟩ = w2.drew.cell? ⟨b, 2, none⟩ from rfl, this]; rfl
  have e3 : w2.frozen? ⟨b, 2, none⟩ = false := H2.out.fz
  go_region_held3 (fun W => W.cell? ⟨b, 1, none⟩ = some (.slice (some ⟨gr, 0, none⟩) 2 2)) (first | exact q0 | exact st_set q0 | go_keep) (((with_reducible refine upon_copy (s := 1) (sLen := 1) HG HR2 rfl (by omega) (by omega) (by simp [cut_len]) ?_); intro w3 HG3 HB3; have q1 : w3.cell? ⟨b, 2, none⟩ = some (.int .i64 0) := HB3.out.cell H2.out.n1 H2.out.c2; have q2 := (st_keep H2 HB3).2.2; have q0 := (st_keep H2 HB3).1))
  have hl : dv.length = 1 := by have := congrArg List.length h5.out; simpa using this
  obtain ⟨vg, vc, rfl, _⟩ := row_form h3.out hl (by omega)
  go_wp2
  go_ret
  have hg3 : CRow w0.heap.size w3 (.slice (some ⟨gr, 0, none⟩) 2 2) (splice (cut f 0 2) 0 (cut (fun i => (cut f 0 2)[i]!) 1 1)) := CRow.of_heap (by simp [splice, cut]) (World.ownsRow.lt H1.out.room _ rfl).1 (by omega) HG3.out
  have s3 := H2.out.but HB3.out hg3
  obtain ⟨s4, b4⟩ := ST.put (k' := 1) s3
  have l1 : gr < w1.heap.size := (World.ownsRow.lt H1.out.room _ rfl).2
  have l2 : w1.heap.size ≤ vg := (World.ownsRow.lt h3.out _ rfl).1
  have l3 : b < w1.heap.size := World.block_lt_of_cell? w1 _ H1.out.c0
  have l4 : w'.heap.size ≤ w1.heap.size := S1.out
  refine ⟨vg, vc, dv, _, rfl, (((h3.out.up (Up.drew _)).far HB3.out (by omega)).far b4 (by omega)).down l4, h5, ⟨s4, ?_⟩, b4.up (HB3.out.up ((U1.out.trans h4.out).trans (Up.drew _)) (World.ownsRow.lt H1.out.room _ rfl).1) H1.out.lo⟩
  simp [splice, cut]
def ED (w : World) (b : Nat) (P d : List (Nat × Nat)) (e : Ending) (w' : World) : Prop :=
  ∃ g cap d1, e = .returned (.slice (some ⟨g, 0, none⟩) 1 cap) ∧ Hid (CRow w.heap.size w' (.slice (some ⟨g, 0, none⟩) 1 cap) d1) ∧ Hid (d1.map ab2 = (List.range 1).map (heldF (fun i => d[i]!) 1 (fun i => P[i]!) 2)) ∧ Hid (But b w w')
theorem end_held {b0 : Nat} {w : World} {b gp cp gr : Nat} {P d : List (Nat × Nat)} {k : Nat} (h : Hid (ST b0 w b gp cp gr 2 P d k)) : Calls Try.prog 23 #[.slice (some ⟨gr, 0, none⟩) 1 2, .slice (some ⟨gp, 0, none⟩) 2 cp, .int .i64 1] w (HL w ((List.range 1).map (heldF (fun i => d[i]!) 1 (fun i => P[i]!) 2))) :=
  t23 gr 0 1 2 gp 0 2 cp 1 _ _ w (rd_take h.out.room (by omega)) (rd_take h.out.pul (Nat.le_refl _)) (by omega) (by omega) (by omega) (by omega)
set_option maxHeartbeats 1000000 in
theorem t15 {b0 : Nat} {w : World} {b gp cp gr : Nat} {P d : List (Nat × Nat)} (h : ST b0 w b gp cp gr 2 P d 1) : Calls Try.prog 15 #[.pointer (some ⟨b, 0, none⟩)] w (ED w b P d) := by
  have H : Hid (ST b0 w b gp cp gr 2 P d 1) := h
  have HD : Hid (ST b0 w.drew b gp cp gr 2 P d 1) := h.up (Up.drew _)
  have c0 := h.c0
  have c1 := h.c1
  have c2 : w.cell? ⟨b, 2, none⟩ = some (.int .i64 1) := h.c2
  clear h
  go_enter Try.func15, Try.ntmps15
  go_wp2_with (go_at_call 37; (with_reducible refine (t37 H.out (by omega) (by omega)).mono ?_); rintro e w' ⟨rfl, rfl⟩)
  go_region_held3 (fun W => W.cell? ⟨b, 0, none⟩ = some (.slice (some ⟨gp, 0, none⟩) 2 cp) ∧ W.cell? ⟨b, 1, none⟩ = some (.slice (some ⟨gr, 0, none⟩) 2 2) ∧ W.cell? ⟨b, 2, none⟩ = some (.int .i64 1)) (first | go_keep | exact ⟨q0, q1, q2⟩)
    ((go_at_call 23; (with_reducible refine (end_held HD).mono ?_); rintro e w2 ⟨v, dv, rfl, h3, h4, h5⟩; have q0 := cell_up c0 ((Up.drew _).trans h4.out); have q1 := cell_up c1 ((Up.drew _).trans h4.out); have q2 := cell_up c2 ((Up.drew _).trans h4.out)))
  have hl : dv.length = 1 := by have := congrArg List.length h5.out; simpa using this
  obtain ⟨vg, vc, rfl, _⟩ := row_form h3.out hl (by omega)
  have s2 : Hid (ST b0 w2 b gp cp gr 2 P d 1) := HD.out.up h4.out
  have q3 : w2.frozen? ⟨b, 2, none⟩ = false := s2.out.fz
  go_wp2
  go_ret
  obtain ⟨s4, b4⟩ := ST.put (k' := 0) s2.out
  have l2 : w'.heap.size ≤ vg := (World.ownsRow.lt h3.out _ rfl).1
  have l3 : b < w'.heap.size := World.block_lt_of_cell? w' _ H.out.c0
  exact ⟨vg, vc, dv, rfl, h3.out.far b4 (by omega), h5, (But.of_up ((Up.drew _).trans h4.out)).trans b4⟩
end Go.Proofs.Ytfimolhndbfpgaa

/- A line to which no sample has come: Feed. -/
import Derived.Test.YtdpogojhpfejjaaRb
import Derived.ArgAppend
import Derived.Deep.RegionLaw
namespace Go.Proofs.Ytdpogojhpfejjaa
open Go.ChangeShapes Go.WideShapes Go.ChangeAt Go.RowKit Go.Fl Ieee
attribute [local go_sem] run_store_float run_store_c isSome_set call32 call31 run_neg fold_eq fold_ne fold_lt fold_gt abs_eq

/-- A line of R + 1 taps. -/
structure LN (b0 : Nat) (w : World) (b gt ct gp R : Nat) (tp : Nat → Nat × Nat) : Prop where
  lo : b0 ≤ b ∧ b0 ≤ gp ∧ b0 ≤ gt
  n1 : b ≠ gp
  n2 : gt ≠ gp
  n3 : b ≠ gt
  c0 : w.cell? ⟨b, 0, none⟩ = some (.slice (some ⟨gt, 0, none⟩) (R + 1) ct)
  c1 : w.cell? ⟨b, 1, none⟩ = some (.slice (some ⟨gp, 0, none⟩) 0 R)
  fz : w.frozen? ⟨b, 1, none⟩ = false
  tap : RD w gt 0 (R + 1) tp
  room : w.ownsRow b0 28 1 (.slice (some ⟨gp, 0, none⟩) 0 R) 0 []
  cap : R + 1 ≤ ct
theorem LN.up {b0 : Nat} {w w' : World} {b gt ct gp R : Nat} {tp : Nat → Nat × Nat} (h : LN b0 w b gt ct gp R tp) (hu : Up w w') : LN b0 w' b gt ct gp R tp :=
  ⟨h.lo, h.n1, h.n2, h.n3, cell_up h.c0 hu, cell_up h.c1 hu, (World.frozen?_of_block (hu.block b (World.block_lt_of_cell? w _ h.c1))).trans h.fz, h.tap.up hu, owns_up h.room hu, h.cap⟩
theorem cut_at (x : Nat → Nat × Nat) {n i : Nat} (hi : i < n) : (cut x 0 n)[i]! = x i := by
  rw [getElem!_pos _ i (by rw [cut_len]; exact hi)]
  simp [cut]
theorem wpList_came {ops : Array Oper} {rest : List Oper} {o : Oper} {a : Act} {Q : Exit → Act → World → Prop} {w : World} {gp gx n cx : Nat} {x : Nat → Nat × Nat} (hgd : o.guard = none) (s y : Operand)
    (hop : o.op = Op.call { callee := Callee.builtin Builtin.append, args := #[s, y], argTypes := #[27, 27] }) (hs : a.eval s = .slice (some ⟨gp, 0, none⟩) 0 0) (hx : a.eval y = .slice (some ⟨gx, 0, none⟩) n cx) (hR : Hid (RD w gx 0 n x)) (h1 : 1 ≤ n) (hn : n ≤ 100000)
    (hK : ∀ gc kc w', Hid (RD w' gc 0 n x) → Hid (Up w w' ∧ n ≤ kc ∧ w.heap.size ≤ gc) → wpList Try.prog ops Q rest (a.put o.dst (.slice (some ⟨gc, 0, none⟩) n kc)) w') : wpList Try.prog ops Q (o :: rest) a w := by
  refine wpList_plain hgd fun K hK' => ?_
  obtain ⟨i0, hi, hz0, hz1, hz2⟩ := info_parts info26
  obtain ⟨v', w', e, r1, r2⟩ := run_append_arg_grows (P := Try.prog) w 27 o.type 28 i0 (.complex .f64 0 0) 1 16 Try.underlying27 hi hz0 hz1 hz2 rfl (by decide) ⟨gp, 0, none⟩ 0 0 [] (by simp) (by simp) ⟨gx, 0, none⟩ n cx ((cut x 0 n).map ce) (by simp [cut_len]) (src_ok (o := 0) hR.out (by omega)) (by omega) (by unfold maxLen; omega) (by omega)
  have hC : CRow w.heap.size w' v' (cut x 0 n) := by
    show w'.ownsRow _ _ _ _ _ _
    rw [cut_len]; simpa using r1
  rcases hC.2 with ⟨rfl, h2⟩ | ⟨gc, kc, cur, rfl, hl, _, hc, _⟩
  · rw [cut_len] at h2; omega
  rw [cut_len] at hc hC e
  unfold Oper.wp
  simp [execOp, hop, resolve, invoke, builtin, hs, hx, e, Result.andThen]
  refine hK' _ _ (hK gc kc w' ?_ ⟨Below.grown (Below.refl _ _) r2 (Nat.le_refl _) (fun j hj => by cases hj), hc, hl⟩)
  intro j hj
  have := hC.cell (i := j) (by rw [cut_len]; exact hj)
  rw [cut_at x hj] at this
  rw [Nat.zero_add]; exact this
/-- An append into an empty row that has room. -/
theorem step_fits {ops : Array Oper} {o : Oper} {a : Act} {w : World} {K : Act → World → Prop} {Q : Exit → Act → World → Prop} {E : Prop} {b0 g R lg lo k c : Nat} {f : Nat → Nat × Nat} (hg : o.guard = none) (s x : Operand)
    (hop : o.op = Op.call { callee := Callee.builtin Builtin.append, args := #[s, x], argTypes := #[27, 27] }) (hs : a.eval s = .slice (some ⟨g, 0, none⟩) 0 R) (hx : a.eval x = .slice (some ⟨lg, lo, none⟩) k c)
    (hC : Hid (w.ownsRow b0 28 1 (.slice (some ⟨g, 0, none⟩) 0 R) 0 [])) (hR : Hid (RD w lg lo k f)) (hk : k ≤ R)
    (h : ∀ w', Hid (But g w w') → K (a.put o.dst (.slice (some ⟨g, 0, none⟩) k R)) w') :
    if Region.wanted o (yielded ops a.tmps) = true then Oper.wp Try.prog o a w K Q else E := by
  have hw : Region.wanted o (yielded ops a.tmps) = true := by simp [Region.wanted, hg]
  rw [if_pos hw]
  obtain ⟨i0, hi, hz0, hz1, hz2⟩ := info_parts info26
  obtain ⟨w', e, h1, h2⟩ := run_append_fits (P := Try.prog) w b0 27 o.type 28 i0 1 Try.underlying27 hi hz1 g 0 R [] hC.out ⟨lg, lo, none⟩ k c ((cut f 0 k).map ce) (by simp [cut_len]) (src_ok (o := 0) hR.out (by omega)) ce_one (by omega)
  rw [Nat.zero_add] at e
  unfold Oper.wp
  simp [execOp, hop, resolve, invoke, builtin, hs, hx, e, Result.andThen]
  exact h w' h2
theorem step_max {ops : Array Oper} {o : Oper} {a : Act} {w : World} {K : Act → World → Prop} {Q : Exit → Act → World → Prop} {E : Prop} {q : Int} {m : Nat} (hg : o.guard = none) (s x : Operand)
    (hop : o.op = Op.call { callee := Callee.builtin Builtin.max, args := #[s, x], argTypes := #[3, 3] }) (hs : a.eval s = .int .i64 q) (hx : a.eval x = .int .i64 0) (hm : (if q < 0 then (0 : Int) else q) = (m : Int))
    (h : K (a.put o.dst (.int .i64 m)) w) :
    if Region.wanted o (yielded ops a.tmps) = true then Oper.wp Try.prog o a w K Q else E := by
  have hw : Region.wanted o (yielded ops a.tmps) = true := by simp [Region.wanted, hg]
  rw [if_pos hw]
  unfold Oper.wp
  simp [execOp, hop, resolve, invoke, builtin, hs, hx, run_max_int2, Result.andThen, hm]
  exact h
theorem Made.fill {n g : Nat} {w w' : World} (h : Made n g w w') (F : Nat → C2) : Fill w w' g n F 0 := by
  obtain ⟨rfl, h2, h3⟩ := h
  exact ⟨⟨_, by simp, h2, fun j hj => by omega⟩, h3⟩
theorem grown_set (w : World) (a : Addr) (u : Value) : w.grownBy (w.setCell a u) (some a.block) :=
  ⟨rfl, rfl, rfl, by simp, fun k _ hne => heap_setCell_other w a k u (fun e => hne (by rw [e]))⟩
theorem ln_keep {b0 : Nat} {w w' : World} {b gt ct gp R : Nat} {tp : Nat → Nat × Nat} (H : Hid (LN b0 w b gt ct gp R tp)) (HB : Hid (But gp w w')) : w'.cell? ⟨b, 0, none⟩ = some (.slice (some ⟨gt, 0, none⟩) (R + 1) ct) ∧ w'.cell? ⟨b, 1, none⟩ = some (.slice (some ⟨gp, 0, none⟩) 0 R) ∧ (w'.cell? ⟨b, 1, none⟩).isSome = true ∧ w'.frozen? ⟨b, 1, none⟩ = false := by
  have h := H.out
  have hb := HB.out
  have q := hb.cell h.n1 h.c1
  exact ⟨hb.cell h.n1 h.c0, q, by rw [q]; rfl, (World.grownBy.frozen_far hb ⟨b, 1, none⟩ (World.block_lt_of_cell? w _ h.c1) (by simpa using h.n1)).trans h.fz⟩
/-- What Feed leaves. -/
def FD (w : World) (b gp n : Nat) (F : Nat → C2) (e : Ending) (w' : World) : Prop :=
  ∃ g d w1, e = .returned (.slice (some ⟨g, 0, none⟩) n n) ∧ Hid (CRow w.heap.size w' (.slice (some ⟨g, 0, none⟩) n n) d) ∧ Hid (d.map ab2 = (List.range n).map F) ∧ Hid (But gp w w1 ∧ But b w1 w')
set_option maxRecDepth 100000 in
set_option maxHeartbeats 2000000 in
theorem t8 {b0 : Nat} {w : World} {b gt ct gp R : Nat} {tp : Nat → Nat × Nat} (h : LN b0 w b gt ct gp R tp) (gx n cx : Nat) (x : Nat → Nat × Nat) (hX : RD w gx 0 n x) (h1 : 1 ≤ n) (hn : n ≤ 4096) (hR1 : 1 ≤ R) (hR2 : R ≤ 200) :
    Calls Try.prog 8 #[.pointer (some ⟨b, 0, none⟩), .slice (some ⟨gx, 0, none⟩) n cx] w (FD w b gp n (lineF (R + 1) tp x)) := by
  have H : Hid (LN b0 w b gt ct gp R tp) := h
  have HX : Hid (RD w gx 0 n x) := hX
  have c0 := h.c0
  have c1 := h.c1
  clear h hX
  have z : ((R : Int) + 1 == 0) = false := by rw [beq_eq_false_iff_ne]; omega
  go_enter Try.func8, Try.ntmps8
  go_wp2_with (first
    | (at_builtin; refine wpList_came rfl _ _ rfl rfl rfl HX h1 (by omega) ?_; intro gc kc w1 HC HU1)
    | ((with_reducible refine upon_make (n := n) (by omega) ?_); intro gl w2 HM))
  have HF : Hid (Fill w1 w2 gl n (lineF (R + 1) tp x) 0) := HM.out.fill _
  have L1 : Hid (Up w w1) := HU1.out.1
  have L2 : Hid (n ≤ kc) := HU1.out.2.1
  have L3 : Hid (w1.heap.size = gl) := HM.out.1
  clear HM HU1 c0 c1 z
  have kc0 : n ≤ kc := L2.out
  go_loopw [8, 38] (fun _ vi wr => ∃ i : Nat, i ≤ n ∧ vi = .int .i64 i ∧ Hid (Fill w1 wr gl n (lineF (R + 1) tp x) i)) (fun _ vi _ => n - (intOf vi).toNat)
  case atStart => exact ⟨0, by omega, rfl, HF⟩
  case round =>
    clear HF
    obtain ⟨i, hi, rfl, HF⟩ := hrel
    have HV : Hid (Up w wr) := L1.out.trans HF.out.below
    have HL : Hid (LN b0 wr b gt ct gp R tp) := H.out.up HV.out
    have RC : Hid (RD wr gc 0 n x) := HC.out.up HF.out.below
    have c0 := HL.out.c0
    by_cases hlt : i < n
    · obtain ⟨⟨x0, y0, hc⟩, hf⟩ := HF.out.cell hlt
      have hs : (wr.cell? ⟨gl, i, none⟩).isSome = true := by rw [hc]; rfl
      clear hc
      have z1 : (i : Int) < (n : Int) := by omega
      have z2 : (i : Int) + 1 ≤ (n : Int) := by omega
      have z3 : (i : Int) + 1 ≤ (kc : Int) := by omega
      have z4 : (0 : Int) ≤ (i : Int) + 1 := by omega
      obtain ⟨M, hM⟩ : ∃ M, Hid (M + 1 = min (R + 1) (i + 1)) := ⟨min (R + 1) (i + 1) - 1, by show _ = _; omega⟩
      have C14 : Hid (Calls Try.prog 14 #[.pointer (some ⟨b, 0, none⟩), .slice (some ⟨gc, 0, none⟩) (i + 1) (i + 1)] wr (CR wr (lineF (R + 1) tp x i).1 (lineF (R + 1) tp x i).2)) := t14 b gt ct (R + 1) gc (i + 1) i M tp x wr c0 HL.out.tap (fun j hj => RC.out j (by omega)) hM.out (by omega) (by omega) HL.out.cap (by omega)
      have F2 : Hid (∀ w2, Up wr w2 → (w2.cell? ⟨gl, i, none⟩).isSome = true ∧ w2.frozen? ⟨gl, i, none⟩ = false) := by
        intro w2 hu
        obtain ⟨⟨x0, y0, hc⟩, hf⟩ := (HF.out.up hu).cell hlt
        exact ⟨by rw [hc]; rfl, hf⟩
      go_wp2_with (first
        | (go_at_call 14; (with_reducible refine C14.out.mono ?_); rintro e w4 ⟨r, s, rfl, hr, hs4, hu⟩; obtain ⟨f1, f2⟩ := F2.out _ hu))
      go_roundw
      case rel => exact ⟨i + 1, by omega, by go_num, (HF.out.up hu).stored hlt hr.out hs4.out⟩
      case measure => simp [intOf]; omega
    · obtain rfl : i = n := by omega
      have c1 := HL.out.c1
      have fz := HL.out.fz
      have c1s : (wr.cell? ⟨b, 1, none⟩).isSome = true := by rw [c1]; rfl
      obtain ⟨m, hm⟩ : ∃ m, m = i - R := ⟨_, rfl⟩
      have HM : Hid (m = i - R) := hm
      have WK : Hid (IntKind.i64.wrap (IntKind.i64.wrap ((i : Int) - ((R : Int) + 1)) + 1) = (i : Int) - (R : Int)) := by
        show _ = _
        rw [i64_id (x := (i : Int) - ((R : Int) + 1)) (by omega), i64_id (by omega)]; omega
      have RS : Hid (RD wr.drew gc m (i - m) (fun j => x (m + j))) := fun j hj => by
        have := RC.out.up (Up.drew _) (m + j) (by omega)
        rw [Nat.zero_add] at this; exact this
      have RM : Hid (wr.drew.ownsRow b0 28 1 (.slice (some ⟨gp, 0, none⟩) 0 R) 0 []) := owns_up HL.out.room (Up.drew _)
      have LD : Hid (LN b0 wr.drew b gt ct gp R tp) := HL.out.up (Up.drew _)
      have k1 : i - m ≤ R := by omega
      have k2 : ¬ kc = m := by omega
      have k3 : ¬ kc - m = 0 := by omega
      have k4 : (m : Int) ≤ (i : Int) := by omega
      have k5 : (m : Int) ≤ (kc : Int) := by omega
      have k6 : (0 : Int) ≤ (m : Int) := by omega
      have k7 : (i : Int) ≤ (kc : Int) := by omega
      clear hm
      go_wp2_with fail
      go_region_law (first
        | (refine step_max (m := m) (by rfl) _ _ (by rfl) (by rfl) (by rfl) (by rw [WK.out]; have := HM.out; split <;> omega) ?_)
        | (refine step_fits (by rfl) _ _ (by rfl) (by rfl) (by rfl) RM RS k1 ?_; intro w5 HB; obtain ⟨g1, g2, g3, g4⟩ := ln_keep LD HB))
      all_goals (try go_wp2)
      all_goals go_ret
      all_goals
        obtain ⟨d, d1, d2⟩ := HF.out.done
        refine ⟨gl, d, w5, rfl, ?_, d2, (But.of_up (HV.out.trans (Up.drew _))).trans HB.out, grown_set _ _ _⟩
        have lb : b < w.heap.size := World.block_lt_of_cell? w _ H.out.c0
        have lp : gp < w.heap.size := (World.ownsRow.lt H.out.room _ rfl).2
        have l3 := L3.out
        have l4 := L1.out.size
        exact (((d1.down l4).up (Up.drew _)).far HB.out (by omega)).far (grown_set _ _ _) (by simp only; omega)
end Go.Proofs.Ytdpogojhpfejjaa

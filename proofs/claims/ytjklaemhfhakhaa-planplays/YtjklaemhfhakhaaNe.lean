/- ahead, best (the document's). -/
import Derived.Test.YtjklaemhfhakhaaNd
import Derived.Deep.DeepCutAuto
namespace Go.Proofs.Ytjklaemhfhakhaa
open Go.ChangeShapes Go.WideShapes Go.ChangeAt Go.RowKit

/-- What the order of jobs goes by. -/
def dueV (j : Jb) : Value := .agg #[.int .i64 j.due, .int .i64 j.rank, .int .i64 j.task]
set_option maxHeartbeats 2000000 in
theorem t54 (a b : Jb) (w : World) : Calls Try.prog 54 #[dueV a, dueV b] w (VU w (.bool (ahB a b))) := by
  obtain ⟨a1, a2, a3, a4, a5⟩ := a
  obtain ⟨b1, b2, b3, b4, b5⟩ := b
  have HU : Hid (Up w ((w.alloc (.cells #[.int .i64 a3, .int .i64 a5, .int .i64 a1] 96)).alloc (.cells #[.int .i64 b3, .int .i64 b5, .int .i64 b1] 96))) := (Up.alloc _ _).trans (Up.alloc _ _)
  by_cases h1 : a3 = b3
  · subst h1
    by_cases h2 : a5 = b5
    · subst h2
      have HR : Hid (ahB ⟨a1, a2, a3, a4, a5⟩ ⟨b1, b2, a3, b4, a5⟩ = decide (a1 < b1)) := by show ahB _ _ = _; unfold ahB; simp
      unfold dueV
      go_enter Try.func54, Try.ntmps54
      go_wp2
      go_ret
      exact ⟨by rw [HR.out]; rfl, HU⟩
    · have HR : Hid (ahB ⟨a1, a2, a3, a4, a5⟩ ⟨b1, b2, a3, b4, b5⟩ = decide (b5 < a5)) := by show ahB _ _ = _; unfold ahB; simp [h2]
      unfold dueV
      go_enter Try.func54, Try.ntmps54
      go_wp2
      go_ret
      exact ⟨by rw [HR.out]; rfl, HU⟩
  · have HR : Hid (ahB ⟨a1, a2, a3, a4, a5⟩ ⟨b1, b2, b3, b4, b5⟩ = decide (a3 < b3)) := by show ahB _ _ = _; unfold ahB; simp [h1]
    unfold dueV
    go_enter Try.func54, Try.ntmps54
    go_wp2
    go_ret
    exact ⟨by rw [HR.out]; rfl, HU⟩
def bestJ (X : Nat → On) (k : Nat) : Jb := match bestN X k with
  | none => noJb
  | some m => (X m).jb m
structure DAt (w : World) (g : Nat) (j : Jb) : Prop where
  d0 : w.cell? ⟨g, 0, none⟩ = some (.int .i64 j.due)
  d1 : w.cell? ⟨g, 1, none⟩ = some (.int .i64 j.rank)
  d2 : w.cell? ⟨g, 2, none⟩ = some (.int .i64 j.task)
  fz : ∀ k, w.frozen? ⟨g, k, none⟩ = false
theorem DAt.of {w : World} {g : Nat} {j : Jb} (h : w.heap[g]? = some (.cells #[.int .i64 j.due, .int .i64 j.rank, .int .i64 j.task] 96)) : DAt w g j := ⟨(row_cell h 0).1, (row_cell h 1).1, (row_cell h 2).1, fun k => (row_cell h k).2⟩
theorem DAt.lt {w : World} {g : Nat} {j : Jb} (h : DAt w g j) : g < w.heap.size := World.block_lt_of_cell? w _ h.d0
theorem DAt.up {w w' : World} {g : Nat} {j : Jb} (h : DAt w g j) (hu : Up w w') : DAt w' g j := ⟨cell_up h.d0 hu, cell_up h.d1 hu, cell_up h.d2 hu, fun k => (Kp.of_up (F := fun _ => True) hu).frozen (a := ⟨g, k, none⟩) trivial h.lt (h.fz k)⟩
theorem DAt.kp {F : Nat → Prop} {w w' : World} {g : Nat} {j : Jb} (h : DAt w g j) (hk : Kp F w w') (hF : F g) : DAt w' g j := ⟨hk.cell hF h.d0, hk.cell hF h.d1, hk.cell hF h.d2, fun k => hk.frozen (a := ⟨g, k, none⟩) hF h.lt (h.fz k)⟩
theorem DAt.put {w : World} {g : Nat} {j j' : Jb} (h : DAt w g j) : DAt (((w.setCell ⟨g, 0, none⟩ (.int .i64 j'.due)).setCell ⟨g, 1, none⟩ (.int .i64 j'.rank)).setCell ⟨g, 2, none⟩ (.int .i64 j'.task)) g j' :=
  ⟨cell_other (cell_other (World.cell?_setCell_same _ _ _ h.d0) (Or.inr (by show 0 ≠ 1; omega))) (Or.inr (by show 0 ≠ 2; omega)), cell_other (World.cell?_setCell_same _ _ _ (cell_other h.d1 (Or.inr (by show 1 ≠ 0; omega)))) (Or.inr (by show 1 ≠ 2; omega)), World.cell?_setCell_same _ _ _ (cell_other (cell_other h.d2 (Or.inr (by show 2 ≠ 0; omega))) (Or.inr (by show 2 ≠ 1; omega))), fun k => by simp only [World.frozen?_setCell]; exact h.fz k⟩
theorem load_due {w : World} {g : Nat} {j : Jb} (h : DAt w g j) : (loadVar 96 ⟨g, 0, none⟩).run Try.prog w = .ok (dueV j) w := by
  obtain ⟨c0, c1, c2, -⟩ := h
  show _ = Result.ok (Value.agg #[.int .i64 j.due, .int .i64 j.rank, .int .i64 j.task]) w
  go_simp
theorem bestJ_idle {X : Nat → On} {k : Nat} (h : (X k).w = []) : bestN X (k + 1) = bestN X k := by
  rw [bestN, if_pos h]
theorem bestJ_first {X : Nat → On} {k : Nat} (h : (X k).w ≠ []) (h2 : bestN X k = none) : bestN X (k + 1) = some k := by
  rw [bestN, if_neg h, h2]
theorem bestJ_next {X : Nat → On} {k m : Nat} (h : (X k).w ≠ []) (h2 : bestN X k = some m) : bestN X (k + 1) = if ahB ((X k).jb k) ((X m).jb m) = true then some k else some m := by
  rw [bestN, if_neg h, h2]
set_option maxRecDepth 200000 in
set_option maxHeartbeats 16000000 in
theorem t53 {w : World} {L : RL} {n : Nat} {a : Int} {X : Nat → On} (h : RW w L n a X) (hn : n ≤ 256) {b : Int} (hok : ∀ i, i < n → (X i).Ok b) (hb : b ≤ 1152921504606846976) : Calls Try.prog 53 #[.pointer (some ⟨L.bp, 0, none⟩)] w (VU w (.tuple #[dueV (bestJ X n), .bool (bestN X n).isSome])) := by
  have H : Hid (RW w L n a X) := h
  have HOK : Hid (∀ i, i < n → (X i).Ok b) := hok
  clear h hok
  have s1 : (w.alloc (.cells #[.int .i64 0, .int .i64 0, .int .i64 0] 96)).heap.size = w.heap.size + 1 := by simp
  have HU0 : Hid (Up w ((w.alloc (.cells #[.int .i64 0, .int .i64 0, .int .i64 0] 96)).alloc (.cells #[.int .i64 0, .int .i64 0, .int .i64 0] 96))) := (Up.alloc _ _).trans (Up.alloc _ _)
  have HD0 : Hid (DAt ((w.alloc (.cells #[.int .i64 0, .int .i64 0, .int .i64 0] 96)).alloc (.cells #[.int .i64 0, .int .i64 0, .int .i64 0] 96)) (w.heap.size + 1) (bestJ X 0)) := by
    have := DAt.of (j := noJb) (heap_alloc_last (w.alloc (.cells #[.int .i64 0, .int .i64 0, .int .i64 0] 96)) (.cells #[.int .i64 0, .int .i64 0, .int .i64 0] 96))
    rw [s1] at this
    exact this
  have HR0 : Hid (DAt ((w.alloc (.cells #[.int .i64 0, .int .i64 0, .int .i64 0] 96)).alloc (.cells #[.int .i64 0, .int .i64 0, .int .i64 0] 96)) w.heap.size noJb) := (DAt.of (heap_alloc_last w (.cells #[.int .i64 0, .int .i64 0, .int .i64 0] 96))).up (Up.alloc _ _)
  clear s1
  go_enter Try.func53, Try.ntmps53
  go_wp2_with fail
  generalize (w.alloc (.cells #[.int .i64 0, .int .i64 0, .int .i64 0] 96)).alloc (.cells #[.int .i64 0, .int .i64 0, .int .i64 0] 96) = W0 at *
  obtain ⟨G, hG⟩ : ∃ G, w.heap.size = G := ⟨_, rfl⟩
  rw [hG] at HD0 HR0 ⊢
  go_loopw [5, 6] (fun v5 v6 wr => ∃ k : Nat, k ≤ n ∧ v6 = .int .i64 k ∧ v5 = .bool (bestN X k).isSome ∧ Hid (Up w wr) ∧ Hid (DAt wr (G + 1) (bestJ X k)) ∧ Hid (DAt wr G noJb)) (fun _ v6 _ => n - (intOf v6).toNat)
  case atStart => exact ⟨0, by omega, rfl, rfl, HU0, HD0, HR0⟩
  case round =>
    clear HU0 HD0 HR0
    obtain ⟨k, hk, rfl, rfl, HU, HD, HR⟩ := hrel
    rename World => wr
    have y0 : (0 : Int) ≤ (k : Int) := by omega
    have HW : Hid (RW wr L n a X) := H.out.up HU.out
    have p0 := HW.out.p0
    have p9 := HW.out.lt
    by_cases hkn : k < n
    · have b0 : (k : Int) < (n : Int) := by omega
      have hps := HW.out.ps (by omega)
      rw [hps] at p0
      have hll := HW.out.ll (by omega)
      have hat := HW.out.at' k hkn
      have hwt := HW.out.wt k hkn
      have hx := HOK.out k hkn
      obtain ⟨xx, hxx⟩ : ∃ xx, X k = xx := ⟨_, rfl⟩
      rw [hxx] at hat hwt hx
      have HX : Hid (X k = xx) := hxx
      clear hxx hps
      obtain ⟨e, l, r, nx, D, lf⟩ := xx
      obtain ⟨pv, cv, hv, hcap, hpp⟩ := hwt.form
      try simp only at hat hwt hx hv hcap hpp
      rw [hv] at hat hwt
      obtain ⟨x0, x1, x2, x3, x4, x5⟩ := hat
      try simp only at x4
      by_cases hD : D = []
      · subst hD
        have HN : Hid (bestN X (k + 1) = bestN X k) := bestJ_idle (by rw [HX.out])
        have HJ : Hid (bestJ X (k + 1) = bestJ X k) := by show bestJ X (k + 1) = bestJ X k; unfold bestJ; rw [HN.out]
        clear x0 x1 x2 x3 x5 hwt hx hv hpp hcap
        simp only [List.length_nil] at x4
        go_wp2_with fail
        go_roundw
        case rel => exact ⟨k + 1, by omega, by go_num, by rw [HN.out], HU, by rw [HJ.out]; exact HD, HR⟩
        case measure => simp [intOf]; omega
      · obtain ⟨j, t, rfl⟩ : ∃ j t, D = j :: t := by cases D with | nil => exact absurd rfl hD | cons j t => exact ⟨j, t, rfl⟩
        obtain ⟨-, g, rfl, lg, z, -⟩ := hwt.get (i := 0) (j := j) rfl
        have hf := hx.head rfl
        obtain ⟨⟨j1, j2, j3⟩, jk, jf⟩ := hx.jm j (by simp)
        have HNE : Hid ((X k).w ≠ []) := by show (X k).w ≠ []; rw [HX.out]; simp
        have HJK : Hid ((X k).jb k = ⟨k, j.f, j.f + j.e, lf, j.r⟩) := by show (X k).jb k = _; rw [HX.out]; rfl
        obtain ⟨jf', jk', je, jl, jr⟩ := j
        obtain ⟨z0, z1, z2, z3, z4⟩ := z
        simp only [List.length_cons, Nat.zero_mul, Nat.zero_add] at x4 z0 z1 z2 z3 z4 hf j1 j2 j3 jf
        have d1 : IntKind.i64.wrap (jf' + je) = jf' + je := by rw [IntKind.wrap_i64]; omega
        have q5 : ¬ ((t.length : Int) + 1) = 0 := by omega
        have q6 : (0 : Int) < (t.length : Int) + 1 := by omega
        have q7 : (0 : Int) < ((t.length + 1 : Nat) : Int) := by omega
        clear x0 x1 x2 x3 x5 hwt hx hv hpp hcap hD
        go_upto_region 9 with fail
        have HU9 : Hid (Up w ((wr.alloc (.cells #[.int .i64 jf', .int .i64 jk', .int .i64 je, .int .i64 jl, .int .i64 jr] 114)).alloc (.cells #[.int .i64 (jf' + je), .int .i64 jr, .int .i64 k] 96))) := HU.out.trans ((Up.alloc _ _).trans (Up.alloc _ _))
        have HE9 : Hid (DAt ((wr.alloc (.cells #[.int .i64 jf', .int .i64 jk', .int .i64 je, .int .i64 jl, .int .i64 jr] 114)).alloc (.cells #[.int .i64 (jf' + je), .int .i64 jr, .int .i64 k] 96)) (wr.heap.size + 1) ⟨k, jf', jf' + je, lf, jr⟩) := by
          have s1 : (wr.alloc (.cells #[.int .i64 jf', .int .i64 jk', .int .i64 je, .int .i64 jl, .int .i64 jr] 114)).heap.size = wr.heap.size + 1 := by simp
          have := DAt.of (j := ⟨k, jf', jf' + je, lf, jr⟩) (heap_alloc_last (wr.alloc (.cells #[.int .i64 jf', .int .i64 jk', .int .i64 je, .int .i64 jl, .int .i64 jr] 114)) (.cells #[.int .i64 (jf' + je), .int .i64 jr, .int .i64 k] 96))
          rw [s1] at this
          exact this
        have HD9 : Hid (DAt ((wr.alloc (.cells #[.int .i64 jf', .int .i64 jk', .int .i64 je, .int .i64 jl, .int .i64 jr] 114)).alloc (.cells #[.int .i64 (jf' + je), .int .i64 jr, .int .i64 k] 96)) (G + 1) (bestJ X k)) := HD.out.up ((Up.alloc _ _).trans (Up.alloc _ _))
        have HR9 : Hid (DAt ((wr.alloc (.cells #[.int .i64 jf', .int .i64 jk', .int .i64 je, .int .i64 jl, .int .i64 jr] 114)).alloc (.cells #[.int .i64 (jf' + je), .int .i64 jr, .int .i64 k] 96)) G noJb) := HR.out.up ((Up.alloc _ _).trans (Up.alloc _ _))
        clear x4 z0 z1 z2 z3 z4 p0 p9 hll lg HD HR HU HW d1 q5 q6 q7
        generalize (wr.alloc (.cells #[.int .i64 jf', .int .i64 jk', .int .i64 je, .int .i64 jl, .int .i64 jr] 114)).alloc (.cells #[.int .i64 (jf' + je), .int .i64 jr, .int .i64 k] 96) = W9 at *
        generalize wr.heap.size + 1 = GE at *
        obtain ⟨e0, e1, e2, -⟩ := HE9.out
        obtain ⟨c0, c1, c2, cz⟩ := HD9.out
        have cz0 := cz 0
        have cz1 := cz 1
        have cz2 := cz 2
        have lE := HE9.out.lt
        have lG1 := HD9.out.lt
        clear cz
        simp only at e0 e1 e2
        have HF : Hid (∀ Z, Up w Z → DAt Z G noJb → DAt Z (G + 1) (bestJ X k) → Hid (Up w (((Z.setCell ⟨G + 1, 0, none⟩ (.int .i64 (jf' + je))).setCell ⟨G + 1, 1, none⟩ (.int .i64 jr)).setCell ⟨G + 1, 2, none⟩ (.int .i64 k))) ∧ Hid (DAt (((Z.setCell ⟨G + 1, 0, none⟩ (.int .i64 (jf' + je))).setCell ⟨G + 1, 1, none⟩ (.int .i64 jr)).setCell ⟨G + 1, 2, none⟩ (.int .i64 k)) (G + 1) ⟨k, jf', jf' + je, lf, jr⟩) ∧ Hid (DAt (((Z.setCell ⟨G + 1, 0, none⟩ (.int .i64 (jf' + je))).setCell ⟨G + 1, 1, none⟩ (.int .i64 jr)).setCell ⟨G + 1, 2, none⟩ (.int .i64 k)) G noJb)) := by
          intro Z hu hr hd
          have hb0 : RowKit.Below w.heap.size w Z := hu
          have hle : w.heap.size ≤ G + 1 := by omega
          exact ⟨((hb0.setCell hle _).setCell hle _).setCell hle _, hd.put (j' := ⟨k, jf', jf' + je, lf, jr⟩), hr.kp (F := fun b => b ≠ G + 1) (((Kp.set _ _ (fun q => q rfl) _).setCell (fun q => q rfl) _).setCell (fun q => q rfl) _) (by show G ≠ G + 1; omega)⟩
        obtain ⟨bk, hbk⟩ : ∃ bk, bestN X k = bk := ⟨_, rfl⟩
        rw [hbk]
        have HBK : Hid (bestN X k = bk) := hbk
        clear hbk
        cases bk with
        | none =>
          have HN : Hid (bestN X (k + 1) = some k) := bestJ_first HNE.out HBK.out
          have HJ : Hid (bestJ X (k + 1) = ⟨k, jf', jf' + je, lf, jr⟩) := by show bestJ X (k + 1) = _; unfold bestJ; rw [HN.out]; exact HJK.out
          simp only [Option.isSome_none]
          go_wp2_with fail
          obtain ⟨f1, f2, f3⟩ := HF.out _ HU9.out HR9.out HD9.out
          go_roundw
          case rel => exact ⟨k + 1, by omega, by go_num, by rw [HN.out]; rfl, f1, by rw [HJ.out]; exact f2, f3⟩
          case measure => simp [intOf]; omega
        | some m =>
          have HBJ : Hid (bestJ X k = (X m).jb m) := by show bestJ X k = _; unfold bestJ; rw [HBK.out]
          obtain ⟨bb, hbb⟩ : ∃ bb, ahB ⟨k, jf', jf' + je, lf, jr⟩ (bestJ X k) = bb := ⟨_, rfl⟩
          have C54 : ∀ W, Hid (Calls Try.prog 54 #[.agg #[.int .i64 (jf' + je), .int .i64 jr, .int .i64 k], .agg #[.int .i64 (bestJ X k).due, .int .i64 (bestJ X k).rank, .int .i64 (bestJ X k).task]] W (VU W (.bool bb))) := fun W => by
            have := t54 ⟨k, jf', jf' + je, lf, jr⟩ (bestJ X k) W
            rw [hbb] at this
            exact this
          have HN : Hid (bestN X (k + 1) = if bb = true then some k else some m) := by
            show bestN X (k + 1) = _
            rw [bestJ_next HNE.out HBK.out, HJK.out, ← HBJ.out, hbb]
          clear hbb
          simp only [Option.isSome_some]
          cases bb with
          | true =>
            have HJ : Hid (bestJ X (k + 1) = ⟨k, jf', jf' + je, lf, jr⟩) := by show bestJ X (k + 1) = _; unfold bestJ; rw [HN.out]; exact HJK.out
            go_wp2_with (go_at_call 54; (with_reducible refine ((C54 _).out).mono ?_); rintro e w5 ⟨rfl, HU5⟩; (have HE5 := HE9.out.up HU5.out); (obtain ⟨e0, e1, e2, -⟩ := HE5); (have HD5 := HD9.out.up HU5.out); (obtain ⟨c0, c1, c2, cz⟩ := HD5); (have cz0 := cz 0); (have cz1 := cz 1); (have cz2 := cz 2); clear cz; simp only at e0 e1 e2)
            obtain ⟨f1, f2, f3⟩ := HF.out _ (HU9.out.trans HU5.out) (HR9.out.up HU5.out) (HD9.out.up HU5.out)
            go_roundw
            case rel => exact ⟨k + 1, by omega, by go_num, by rw [HN.out]; rfl, f1, by rw [HJ.out]; exact f2, f3⟩
            case measure => simp [intOf]; omega
          | false =>
            have HJ : Hid (bestJ X (k + 1) = bestJ X k) := by show bestJ X (k + 1) = bestJ X k; unfold bestJ; rw [HN.out, HBK.out]; rfl
            go_wp2_with (go_at_call 54; (with_reducible refine ((C54 _).out).mono ?_); rintro e w5 ⟨rfl, HU5⟩)
            go_roundw
            case rel => exact ⟨k + 1, by omega, by go_num, by rw [HN.out]; rfl, HU9.out.trans HU5.out, by rw [HJ.out]; exact HD9.out.up HU5.out, HR9.out.up HU5.out⟩
            case measure => simp [intOf]; omega
    · obtain rfl : k = n := by omega
      obtain ⟨c0, c1, c2, -⟩ := HD.out
      obtain ⟨g0, g1, g2, gz⟩ := HR.out
      have gz0 := gz 0
      have gz1 := gz 1
      have gz2 := gz 2
      have lG := HR.out.lt
      have lG1 := HD.out.lt
      have hs := hG
      clear gz
      go_wp2_with fail
      refine bodyPost_ret (results_st_tmp Try.results53 _ _ G _ rfl (load_due HR.out.put)) rfl ⟨rfl, ?_⟩
      have hb0 : RowKit.Below w.heap.size w wr := HU.out
      exact ((hb0.setCell (Nat.le_of_eq hG) _).setCell (Nat.le_of_eq hG) _).setCell (Nat.le_of_eq hG) _
end Go.Proofs.Ytjklaemhfhakhaa

/- A step back, the document's. -/
import Derived.Test.YtcgbmcnefolgcaaCc
namespace Go.Proofs.Ytcgbmcnefolgcaa
open Go.ChangeShapes Go.WideShapes Go.ChangeAt Go.RowKit Go.Fl Go.Sort
attribute [local go_sem] run_store_float call22 call54 run_neg fold_eq fold_ne fold_lt fold_gt abs_eq

theorem good_less {a b c d : Option Nat} (_ : Good a) (_ : Good b) (_ : Good c) (_ : Good d) : Good (lessF a b c d) := good_bin _ _ _
theorem t62 (a x b y : Nat) (w : World) : Calls Try.prog 62 #[.float .f64 a, .float .f64 x, .float .f64 b, .float .f64 y] w (FR w (lessF (ab a) (ab x) (ab b) (ab y))) := by
  go_enter Try.func62, Try.ntmps62
  go_wp2_with (first
    | ((with_reducible refine upon_fl (op := .mul) (x := a) (y := x) (by simp) ?_); intro r1 n1 k1)
    | ((with_reducible refine upon_fl (op := .mul) (x := b) (y := y) (by simp) ?_); intro r2 n2 k2)
    | ((with_reducible refine upon_fl (op := .sub) (by simp) ?_); intro r3 n3 k3))
  go_ret
  exact ⟨r3, _, rfl, rfl, by show _ = _; rw [k3.out, k1.out, k2.out]; rfl⟩
theorem t63 (a x b y : Nat) (w : World) : Calls Try.prog 63 #[.float .f64 a, .float .f64 x, .float .f64 b, .float .f64 y] w (FR w (prodF (ab a) (ab x) (ab b) (ab y))) := by
  go_enter Try.func63, Try.ntmps63
  go_wp2_with (first
    | ((with_reducible refine upon_fl (op := .mul) (x := a) (y := x) (by simp) ?_); intro r1 n1 k1)
    | ((with_reducible refine upon_fl (op := .mul) (x := b) (y := y) (by simp) ?_); intro r2 n2 k2)
    | ((with_reducible refine upon_fl (op := .add) (by simp) ?_); intro r3 n3 k3))
  go_ret
  exact ⟨r3, _, rfl, rfl, by show _ = _; rw [k3.out, k1.out, k2.out]; rfl⟩
theorem eg63 (args : Array Value) (w : World) : (callFunc 63 args).run Try.prog w = .ok (.enter 63 args) w := enters Try.func63 (by kernel_rfl) (by kernel_rfl) _ _
/-- What may be, if its squares are not below 0, is finite. -/
theorem may_fin (r : S5) : mayF ⟨r.x, r.v, nb0F r.a, r.b, nb0F r.c⟩ = (fin r.x && fin r.v && fin (nb0F r.a) && fin r.b && fin (nb0F r.c)) := by
  have key : ∀ o : Option Nat, fin (nb0F o) = true → geF (nb0F o) (ab 0) = true := fun o h => by
    unfold nb0F at h ⊢
    split
    · decide +kernel
    · rename_i hl
      rw [if_neg hl] at h
      unfold fin at h
      simp only [Bool.and_eq_true] at h
      have h1 : (ord o o == some .eq) = true := h.1
      cases o with
      | none => cases h1
      | some x =>
        have hN : isN x = false := by
          cases q : isN x with
          | false => rfl
          | true =>
            exfalso
            have h2 : ord (some x) (some x) = none := order_nanL q
            rw [h2] at h1
            cases h1
        have e1 : ord (some x) (ab 0) = some (compare (lin x) (lin 0)) := by
          rw [← ab_some hN, ← order_ab]; exact order_lin hN (by decide +kernel)
        unfold ltF at hl
        unfold geF gtF eqF
        rw [e1] at hl ⊢
        cases q : compare (lin x) (lin 0) <;> rw [q] at hl <;> simp at hl <;> rfl
  unfold mayF
  cases h1 : fin r.x <;> cases h2 : fin r.v <;> cases h3 : fin (nb0F r.a) <;> cases h4 : fin r.b <;> cases h5 : fin (nb0F r.c) <;> simp_all
/-- The steps' state ahead of the last two questions. -/
def rawF (p s n : S5) (c11 c12 c21 c22 : Option Nat) : S5 :=
  let ex := bin .sub n.x p.x
  let ev := bin .sub n.v p.v
  let exx := bin .sub n.a p.a
  let exv := bin .sub n.b p.b
  let evv := bin .sub n.c p.c
  let t11 := prodF c11 exx c12 exv
  let t12 := prodF c11 exv c12 evv
  let t21 := prodF c21 exx c22 exv
  let t22 := prodF c21 exv c22 evv
  ⟨bin .add s.x (prodF c11 ex c12 ev), bin .add s.v (prodF c21 ex c22 ev), bin .add s.a (prodF t11 c11 t12 c12), bin .add s.b (prodF t11 c21 t12 c22), bin .add s.c (prodF t21 c21 t22 c22)⟩
theorem next_raw (p s n : S5) (c11 c12 c21 c22 : Option Nat) : nextF p s n c11 c12 c21 c22 = ⟨(rawF p s n c11 c12 c21 c22).x, (rawF p s n c11 c12 c21 c22).v, nb0F (rawF p s n c11 c12 c21 c22).a, (rawF p s n c11 c12 c21 c22).b, nb0F (rawF p s n c11 c12 c21 c22).c⟩ := rfl
theorem row_set2 {w W : World} {g : Nat} {t : TypeId} {x0 x1 x2 x3 x4 : Value} (h : W.heap[g]? = some (.cells #[x0, x1, x2, x3, x4] t)) (hu : Up w W) (hg : w.heap.size ≤ g) (y : Value) : (W.setCell ⟨g, 2, none⟩ y).heap[g]? = some (.cells #[x0, x1, y, x3, x4] t) ∧ (∀ k, k < g → (W.setCell ⟨g, 2, none⟩ y).heap[k]? = W.heap[k]?) ∧ Up w (W.setCell ⟨g, 2, none⟩ y) :=
  ⟨heap_setCell_same W g 2 _ t y h, fun k hk => (Below.setCell (p := ⟨g, 2, none⟩) (Below.refl g W) (Nat.le_refl g) y).block k hk, Up.cell hu hg 2 y⟩
theorem row_set4 {w W : World} {g : Nat} {t : TypeId} {x0 x1 x2 x3 x4 : Value} (h : W.heap[g]? = some (.cells #[x0, x1, x2, x3, x4] t)) (hu : Up w W) (hg : w.heap.size ≤ g) (y : Value) : (W.setCell ⟨g, 4, none⟩ y).heap[g]? = some (.cells #[x0, x1, x2, x3, y] t) ∧ (∀ k, k < g → (W.setCell ⟨g, 4, none⟩ y).heap[k]? = W.heap[k]?) ∧ Up w (W.setCell ⟨g, 4, none⟩ y) :=
  ⟨heap_setCell_same W g 4 _ t y h, fun k hk => (Below.setCell (p := ⟨g, 4, none⟩) (Below.refl g W) (Nat.le_refl g) y).block k hk, Up.cell hu hg 4 y⟩
theorem three_last (w : World) (o o' o'' : Obj) : (((w.alloc o).alloc o').alloc o'').heap[w.heap.size + 2]? = some o'' := by
  have := heap_alloc_last ((w.alloc o).alloc o') o''
  simpa using this
set_option maxHeartbeats 8000000 in
set_option maxRecDepth 20000 in
theorem t33 (s n : Stt) (t q : Nat) (w : World) : Calls Try.prog 33 #[s.val, .float .f64 t, .float .f64 q, n.val] w (SR w (stepF s.ab (ab t) (ab q) n.ab)) := by
  obtain ⟨x, v, a, b, c⟩ := s
  obtain ⟨nx, nv, na, nb, nc⟩ := n
  have HU : Hid (Up w (((w.alloc (.cells #[.float .f64 x, .float .f64 v, .float .f64 a, .float .f64 b, .float .f64 c] 27)).alloc (.cells #[.float .f64 nx, .float .f64 nv, .float .f64 na, .float .f64 nb, .float .f64 nc] 27)).alloc (.cells #[.float .f64 0, .float .f64 0, .float .f64 0, .float .f64 0, .float .f64 0] 27))) := (Up.alloc2 _ _ _).al _
  have RS : Hid ((((w.alloc (.cells #[.float .f64 x, .float .f64 v, .float .f64 a, .float .f64 b, .float .f64 c] 27)).alloc (.cells #[.float .f64 nx, .float .f64 nv, .float .f64 na, .float .f64 nb, .float .f64 nc] 27)).alloc (.cells #[.float .f64 0, .float .f64 0, .float .f64 0, .float .f64 0, .float .f64 0] 27)).heap[w.heap.size]? = some (.cells #[.float .f64 x, .float .f64 v, .float .f64 a, .float .f64 b, .float .f64 c] 27)) := row_up (heap_alloc_last w (.cells #[.float .f64 x, .float .f64 v, .float .f64 a, .float .f64 b, .float .f64 c] 27)) (Up.alloc2 _ _ _)
  have RN : Hid ((((w.alloc (.cells #[.float .f64 x, .float .f64 v, .float .f64 a, .float .f64 b, .float .f64 c] 27)).alloc (.cells #[.float .f64 nx, .float .f64 nv, .float .f64 na, .float .f64 nb, .float .f64 nc] 27)).alloc (.cells #[.float .f64 0, .float .f64 0, .float .f64 0, .float .f64 0, .float .f64 0] 27)).heap[w.heap.size + 1]? = some (.cells #[.float .f64 nx, .float .f64 nv, .float .f64 na, .float .f64 nb, .float .f64 nc] 27)) := row_up (alloc2_last w _ _) (Up.alloc _ _)
  have RR : Hid ((((w.alloc (.cells #[.float .f64 x, .float .f64 v, .float .f64 a, .float .f64 b, .float .f64 c] 27)).alloc (.cells #[.float .f64 nx, .float .f64 nv, .float .f64 na, .float .f64 nb, .float .f64 nc] 27)).alloc (.cells #[.float .f64 0, .float .f64 0, .float .f64 0, .float .f64 0, .float .f64 0] 27)).heap[w.heap.size + 2]? = some (.cells #[.float .f64 0, .float .f64 0, .float .f64 0, .float .f64 0, .float .f64 0] 27)) := three_last w _ _ _
  obtain ⟨b0, b1, b2, b3, b4⟩ := BC.of_row RS.out
  have HG : Hid (w.heap.size ≤ w.heap.size + 2) := Nat.le_add_right _ _
  go_enter Try.func33, Try.ntmps33
  go_wp2_with fail
  generalize ((w.alloc (.cells #[.float .f64 x, .float .f64 v, .float .f64 a, .float .f64 b, .float .f64 c] 27)).alloc (.cells #[.float .f64 nx, .float .f64 nv, .float .f64 na, .float .f64 nb, .float .f64 nc] 27)).alloc (.cells #[.float .f64 0, .float .f64 0, .float .f64 0, .float .f64 0, .float .f64 0] 27) = W at *
  generalize w.heap.size + 2 = gr at *
  generalize w.heap.size + 1 = gn at *
  have HG' : Hid (w.heap.size ≤ gr) := HG
  generalize w.heap.size = gs at RS b0 b1 b2 b3 b4
  refine (t61 x v a b c t q W).mono ?_
  rintro e w1 ⟨px, pv, pa, pb, pc, rfl, HP, U1⟩
  have U2 : Hid (Up W (w1.alloc (.cells #[.float .f64 px, .float .f64 pv, .float .f64 pa, .float .f64 pb, .float .f64 pc] 27))) := U1.out.al _
  have RP : Hid ((w1.alloc (.cells #[.float .f64 px, .float .f64 pv, .float .f64 pa, .float .f64 pb, .float .f64 pc] 27)).heap[w1.heap.size]? = some (.cells #[.float .f64 px, .float .f64 pv, .float .f64 pa, .float .f64 pb, .float .f64 pc] 27)) := heap_alloc_last _ _
  obtain ⟨p0, p1, p2, p3, p4⟩ := BC.of_row RP.out
  go_upto_region 3 with (go_at_call 62; (with_reducible refine (t62 pa pc pb pb _).mono ?_); rintro e w' ⟨r3, n3, rfl, rfl, k3⟩)
  generalize w1.alloc (.cells #[.float .f64 px, .float .f64 pv, .float .f64 pa, .float .f64 pb, .float .f64 pc] 27) = W2 at *
  generalize w1.heap.size = gp at *
  have U4 : Hid (Up w W2) := HU.out.trans U2.out
  have RS2 : Hid (W2.heap[gs]? = some (.cells #[.float .f64 x, .float .f64 v, .float .f64 a, .float .f64 b, .float .f64 c] 27)) := row_up RS.out U2.out
  have RN2 : Hid (W2.heap[gn]? = some (.cells #[.float .f64 nx, .float .f64 nv, .float .f64 na, .float .f64 nb, .float .f64 nc] 27)) := row_up RN.out U2.out
  have RR2 : Hid (W2.heap[gr]? = some (.cells #[.float .f64 0, .float .f64 0, .float .f64 0, .float .f64 0, .float .f64 0] 27)) := row_up RR.out U2.out
  clear b0 b1 b2 b3 b4 HU RS RN RR U1 U2 HG
  obtain ⟨b0, b1, b2, b3, b4⟩ := BC.of_row RS2.out
  obtain ⟨d0, d1, d2, d3, d4⟩ := BC.of_row RN2.out
  have eP : Hid ((⟨ab px, ab pv, ab pa, ab pb, ab pc⟩ : S5) = aheadF ⟨ab x, ab v, ab a, ab b, ab c⟩ (ab t) (ab q)) := by
    obtain ⟨e1, e2, e3, e4, e5⟩ := HP.out
    show _ = _
    rw [e1, e2, e3, e4, e5]
  have KD : Hid (ab r3 = detF (aheadF ⟨ab x, ab v, ab a, ab b, ab c⟩ (ab t) (ab q))) := by show _ = _; rw [k3.out, ← eP.out]; rfl
  clear k3 HP
  have hl : gr < W2.heap.size := (Array.getElem?_eq_some_iff.1 RR2.out).1
  have HK : ∀ z, (gtF (detF (aheadF ⟨ab x, ab v, ab a, ab b, ab c⟩ (ab t) (ab q))) (ab 0) && fin (detF (aheadF ⟨ab x, ab v, ab a, ab b, ab c⟩ (ab t) (ab q)))) = z → (gtF (ab r3) (ab 0) && fin (ab r3)) = z := fun z h => by rw [KD.out]; exact h
  cases hz : (gtF (detF (aheadF ⟨ab x, ab v, ab a, ab b, ab c⟩ (ab t) (ab q))) (ab 0) && fin (detF (aheadF ⟨ab x, ab v, ab a, ab b, ab c⟩ (ab t) (ab q))))
  · have hz' := HK _ hz
    clear HK
    have HS : Hid (stepF ⟨ab x, ab v, ab a, ab b, ab c⟩ (ab t) (ab q) ⟨ab nx, ab nv, ab na, ab nb, ab nc⟩ = ⟨ab x, ab v, ab a, ab b, ab c⟩) := by show _ = _; unfold stepF; rw [hz]; rfl
    clear hz
    obtain ⟨l0, l1, l2, l3, l4⟩ := BC.of_row RR2.out
    have fz : ∀ i, W2.frozen? ⟨gr, i, none⟩ = false := fun i => by unfold World.frozen?; simp only [RR2.out]; rfl
    have fz0 := fz 0
    have fz1 := fz 1
    have fz2 := fz 2
    have fz3 := fz 3
    have fz4 := fz 4
    clear fz
    have HR3 : Hid ((W2.drewN n3).heap[gr]? = some (.cells #[.float .f64 0, .float .f64 0, .float .f64 0, .float .f64 0, .float .f64 0] 27)) := RR2
    have U5 : Hid (Up w (W2.drewN n3)) := U4.out.dr _
    cases hg : gtF (ab r3) (ab 0)
    · clear hz'
      go_wp2
      exact bodyPost_ret (results_cell_row Try.results33 _ _ _ 27 #[.float .f64 x, .float .f64 v, .float .f64 a, .float .f64 b, .float .f64 c] (0, 0) _ rfl (set5 HR3.out rfl _ _ _ _ _) Try.underlying27 rfl (by kernel_rfl)) rfl ⟨x, v, a, b, c, rfl, by show _ ∧ _; have := HS.out; simp only [Stt.ab]; rw [this]; exact ⟨rfl, rfl, rfl, rfl, rfl⟩, up_set5 U5.out HG'.out _ _ _ _ _⟩
    · have hf : fin (ab r3) = false := by rw [hg] at hz'; simpa using hz'
      clear hz'
      go_wp2_with (go_at_call 32; (with_reducible refine (t32 r3 _).mono ?_); rintro e w' ⟨rfl, hw⟩; subst w'; rw [hf])
      exact bodyPost_ret (results_cell_row Try.results33 _ _ _ 27 #[.float .f64 x, .float .f64 v, .float .f64 a, .float .f64 b, .float .f64 c] (0, 0) _ rfl (set5 HR3.out rfl _ _ _ _ _) Try.underlying27 rfl (by kernel_rfl)) rfl ⟨x, v, a, b, c, rfl, by show _ ∧ _; have := HS.out; simp only [Stt.ab]; rw [this]; exact ⟨rfl, rfl, rfl, rfl, rfl⟩, up_set5 U5.out HG'.out _ _ _ _ _⟩
  · have hz' := HK _ hz
    clear HK
    simp only [Bool.and_eq_true] at hz'
    obtain ⟨hg, hf⟩ := hz'
    have HZ : Hid _ := hz
    clear hz
    go_upto_region 5 with (first | (go_at_call 32; (with_reducible refine (t32 r3 _).mono ?_); rintro e w' ⟨rfl, hw⟩; subst w'; rw [hf]))
    go_upto_region 7 with (first | ((with_reducible refine upon_fl (op := .mul) (x := t) (y := b) (by simp) ?_); intro q5 nq5 kq5) | ((with_reducible refine upon_fl (op := .add) (x := a) (y := q5) (by simp) ?_); intro m11 nm11 km11))
    go_upto_region 9 with (first | ((with_reducible refine upon_fl (op := .mul) (x := t) (y := c) (by simp) ?_); intro q7 nq7 kq7) | ((with_reducible refine upon_fl (op := .add) (x := b) (y := q7) (by simp) ?_); intro m21 nm21 km21))
    go_upto_region 10 with (first | (go_at_call 62; (with_reducible refine (t62 m11 pc b pb _).mono ?_); rintro e w' ⟨q9, nq9, rfl, rfl, kq9⟩) | ((with_reducible refine upon_fl (op := .quo) (x := q9) (y := r3) (by simp) ?_); intro c11 nc11 kc11))
    go_upto_region 11 with (first | (go_at_call 62; (with_reducible refine (t62 b pa m11 pb _).mono ?_); rintro e w' ⟨q10, nq10, rfl, rfl, kq10⟩) | ((with_reducible refine upon_fl (op := .quo) (x := q10) (y := r3) (by simp) ?_); intro c12 nc12 kc12))
    go_upto_region 12 with (first | (go_at_call 62; (with_reducible refine (t62 m21 pc c pb _).mono ?_); rintro e w' ⟨q11, nq11, rfl, rfl, kq11⟩) | ((with_reducible refine upon_fl (op := .quo) (x := q11) (y := r3) (by simp) ?_); intro c21 nc21 kc21))
    go_upto_region 13 with (first | (go_at_call 62; (with_reducible refine (t62 c pa m21 pb _).mono ?_); rintro e w' ⟨q12, nq12, rfl, rfl, kq12⟩) | ((with_reducible refine upon_fl (op := .quo) (x := q12) (y := r3) (by simp) ?_); intro c22 nc22 kc22))
    go_upto_region 14 with (first | ((with_reducible refine upon_fl (op := .sub) (x := nx) (y := px) (by simp) ?_); intro ex nex kex))
    go_upto_region 15 with (first | ((with_reducible refine upon_fl (op := .sub) (x := nv) (y := pv) (by simp) ?_); intro ev nev kev))
    go_upto_region 16 with (first | ((with_reducible refine upon_fl (op := .sub) (x := na) (y := pa) (by simp) ?_); intro exx nexx kexx))
    go_upto_region 17 with (first | ((with_reducible refine upon_fl (op := .sub) (x := nb) (y := pb) (by simp) ?_); intro exv nexv kexv))
    go_upto_region 18 with (first | ((with_reducible refine upon_fl (op := .sub) (x := nc) (y := pc) (by simp) ?_); intro evv nevv kevv))
    go_upto_region 19 with (first | (go_at_call 63; (with_reducible refine (t63 c11 exx c12 exv _).mono ?_); rintro e w' ⟨s11, ns11, rfl, rfl, ks11⟩))
    go_upto_region 20 with (first | (go_at_call 63; (with_reducible refine (t63 c11 exv c12 evv _).mono ?_); rintro e w' ⟨s12, ns12, rfl, rfl, ks12⟩))
    go_upto_region 21 with (first | (go_at_call 63; (with_reducible refine (t63 c21 exx c22 exv _).mono ?_); rintro e w' ⟨s21, ns21, rfl, rfl, ks21⟩))
    go_upto_region 22 with (first | (go_at_call 63; (with_reducible refine (t63 c21 exv c22 evv _).mono ?_); rintro e w' ⟨s22, ns22, rfl, rfl, ks22⟩))
    have KR0 : Hid ((rawF ⟨ab px, ab pv, ab pa, ab pb, ab pc⟩ ⟨ab x, ab v, ab a, ab b, ab c⟩ ⟨ab nx, ab nv, ab na, ab nb, ab nc⟩ (ab c11) (ab c12) (ab c21) (ab c22)) = ⟨bin .add (ab x) (prodF (ab c11) (ab ex) (ab c12) (ab ev)), bin .add (ab v) (prodF (ab c21) (ab ex) (ab c22) (ab ev)), bin .add (ab a) (prodF (ab s11) (ab c11) (ab s12) (ab c12)), bin .add (ab b) (prodF (ab s11) (ab c21) (ab s12) (ab c22)), bin .add (ab c) (prodF (ab s21) (ab c21) (ab s22) (ab c22))⟩) := by
      show _ = _
      rw [ks11.out, ks12.out, ks21.out, ks22.out, kex.out, kev.out, kexx.out, kexv.out, kevv.out]; rfl
    have KC : Hid (ab c11 = gainA ⟨ab px, ab pv, ab pa, ab pb, ab pc⟩ (ab r3) (bin .add (ab a) (bin .mul (ab t) (ab b))) (ab b) ∧ ab c12 = gainB ⟨ab px, ab pv, ab pa, ab pb, ab pc⟩ (ab r3) (bin .add (ab a) (bin .mul (ab t) (ab b))) (ab b) ∧ ab c21 = gainA ⟨ab px, ab pv, ab pa, ab pb, ab pc⟩ (ab r3) (bin .add (ab b) (bin .mul (ab t) (ab c))) (ab c) ∧ ab c22 = gainB ⟨ab px, ab pv, ab pa, ab pb, ab pc⟩ (ab r3) (bin .add (ab b) (bin .mul (ab t) (ab c))) (ab c)) := by
      show _ ∧ _
      rw [kc11.out, kc12.out, kc21.out, kc22.out, kq9.out, kq10.out, kq11.out, kq12.out, km11.out, km21.out, kq5.out, kq7.out]
      exact ⟨rfl, rfl, rfl, rfl⟩
    clear ks11 ks12 ks21 ks22 kex kev kexx kexv kevv kc11 kc12 kc21 kc22 kq9 kq10 kq11 kq12 km11 km21 kq5 kq7
    have U5 : Hid (Up w (W2.drewN (n3 + nq5 + nm11 + nq7 + nm21 + nq9 + nc11 + nq10 + nc12 + nq11 + nc21 + nq12 + nc22 + nex + nev + nexx + nexv + nevv + ns11 + ns12 + ns21 + ns22))) := U4.out.dr _
    have RS5 : Hid ((W2.drewN (n3 + nq5 + nm11 + nq7 + nm21 + nq9 + nc11 + nq10 + nc12 + nq11 + nc21 + nq12 + nc22 + nex + nev + nexx + nexv + nevv + ns11 + ns12 + ns21 + ns22)).heap[gs]? = some (.cells #[.float .f64 x, .float .f64 v, .float .f64 a, .float .f64 b, .float .f64 c] 27)) := RS2
    have RR5 : Hid ((W2.drewN (n3 + nq5 + nm11 + nq7 + nm21 + nq9 + nc11 + nq10 + nc12 + nq11 + nc21 + nq12 + nc22 + nex + nev + nexx + nexv + nevv + ns11 + ns12 + ns21 + ns22)).heap[gr]? = some (.cells #[.float .f64 0, .float .f64 0, .float .f64 0, .float .f64 0, .float .f64 0] 27)) := RR2
    generalize W2.drewN (n3 + nq5 + nm11 + nq7 + nm21 + nq9 + nc11 + nq10 + nc12 + nq11 + nc21 + nq12 + nc22 + nex + nev + nexx + nexv + nevv + ns11 + ns12 + ns21 + ns22) = W5 at *
    clear b0 b1 b2 b3 b4 p0 p1 p2 p3 p4 d0 d1 d2 d3 d4 hl
    obtain ⟨b0, b1, b2, b3, b4⟩ := BC.of_row RS5.out
    refine wp_region_sq1 42 41 ((Sq.val (.pointer (some ⟨gs, 0, none⟩))) :: (Sq.val (.float .f64 x)) :: (Sq.val (.float .f64 c11)) :: (Sq.val (.float .f64 ex)) :: (Sq.val (.float .f64 c12)) :: (Sq.val (.float .f64 ev)) :: (Sq.fl (prodF (ab c11) (ab ex) (ab c12) (ab ev))) :: (Sq.fl (bin .add (ab x) (prodF (ab c11) (ab ex) (ab c12) (ab ev)))) :: (Sq.val (.pointer (some ⟨gs, 1, none⟩))) :: (Sq.val (.float .f64 v)) :: (Sq.val (.float .f64 c21)) :: (Sq.val (.float .f64 ex)) :: (Sq.val (.float .f64 c22)) :: (Sq.val (.float .f64 ev)) :: (Sq.fl (prodF (ab c21) (ab ex) (ab c22) (ab ev))) :: (Sq.fl (bin .add (ab v) (prodF (ab c21) (ab ex) (ab c22) (ab ev)))) :: (Sq.val (.pointer (some ⟨gs, 2, none⟩))) :: (Sq.val (.float .f64 a)) :: (Sq.val (.float .f64 s11)) :: (Sq.val (.float .f64 c11)) :: (Sq.val (.float .f64 s12)) :: (Sq.val (.float .f64 c12)) :: (Sq.fl (prodF (ab s11) (ab c11) (ab s12) (ab c12))) :: (Sq.fl (bin .add (ab a) (prodF (ab s11) (ab c11) (ab s12) (ab c12)))) :: (Sq.val (.pointer (some ⟨gs, 3, none⟩))) :: (Sq.val (.float .f64 b)) :: (Sq.val (.float .f64 s11)) :: (Sq.val (.float .f64 c21)) :: (Sq.val (.float .f64 s12)) :: (Sq.val (.float .f64 c22)) :: (Sq.fl (prodF (ab s11) (ab c21) (ab s12) (ab c22))) :: (Sq.fl (bin .add (ab b) (prodF (ab s11) (ab c21) (ab s12) (ab c22)))) :: (Sq.val (.pointer (some ⟨gs, 4, none⟩))) :: (Sq.val (.float .f64 c)) :: (Sq.val (.float .f64 s21)) :: (Sq.val (.float .f64 c21)) :: (Sq.val (.float .f64 s22)) :: (Sq.val (.float .f64 c22)) :: (Sq.fl (prodF (ab s21) (ab c21) (ab s22) (ab c22))) :: (Sq.fl (bin .add (ab c) (prodF (ab s21) (ab c21) (ab s22) (ab c22)))) :: (Sq.st ⟨bin .add (ab x) (prodF (ab c11) (ab ex) (ab c12) (ab ev)), bin .add (ab v) (prodF (ab c21) (ab ex) (ab c22) (ab ev)), bin .add (ab a) (prodF (ab s11) (ab c11) (ab s12) (ab c12)), bin .add (ab b) (prodF (ab s11) (ab c21) (ab s12) (ab c22)), bin .add (ab c) (prodF (ab s21) (ab c21) (ab s22) (ab c22))⟩) :: (Sq.val (.pointer (some ⟨(W5).heap.size, 0, none⟩))) :: []) (MkC (W5) (.cells #[.float .f64 0, .float .f64 0, .float .f64 0, .float .f64 0, .float .f64 0] 27)) (by decide) (by kernel_rfl) (by decide) rfl (by kernel_rfl) ⟨good_val _, good_val _, good_val _, good_val _, good_val _, good_val _, good_fl (good_prod (good_ab _) (good_ab _) (good_ab _) (good_ab _)), good_fl (good_bin _ _ _), good_val _, good_val _, good_val _, good_val _, good_val _, good_val _, good_fl (good_prod (good_ab _) (good_ab _) (good_ab _) (good_ab _)), good_fl (good_bin _ _ _), good_val _, good_val _, good_val _, good_val _, good_val _, good_val _, good_fl (good_prod (good_ab _) (good_ab _) (good_ab _) (good_ab _)), good_fl (good_bin _ _ _), good_val _, good_val _, good_val _, good_val _, good_val _, good_val _, good_fl (good_prod (good_ab _) (good_ab _) (good_ab _) (good_ab _)), good_fl (good_bin _ _ _), good_val _, good_val _, good_val _, good_val _, good_val _, good_val _, good_fl (good_prod (good_ab _) (good_ab _) (good_ab _) (good_ab _)), good_fl (good_bin _ _ _), good_st (good_bin _ _ _) (good_bin _ _ _) (good_bin _ _ _) (good_bin _ _ _) (good_bin _ _ _), good_val _, trivial⟩ (MkC.start _ _) ?_
    intro fg hF
    obtain ⟨_, _, _, _, _, _, kg6, kg7, _, _, _, _, _, _, kg14, kg15, _, _, _, _, _, _, kg22, kg23, _, _, _, _, _, _, kg30, kg31, _, _, _, _, _, _, kg38, kg39, kg40, _, _⟩ := hF
    simp only [List.take_succ_cons, List.take_zero, valsQ, FillL, Act.put, List.setIfInBounds_toArray, List.set_cons_succ, List.set_cons_zero, Nat.zero_add, Nat.reduceAdd]
    refine ⟨⟨fun bq => SqO.is rfl (fun w hw => by go_simp),
      fun bq => SqO.is rfl (fun w hw => by have z9 := up_cell hw.1 b0; go_simp),
      fun bq => SqO.is rfl (fun w hw => by go_simp),
      fun bq => SqO.is rfl (fun w hw => by go_simp),
      fun bq => SqO.is rfl (fun w hw => by go_simp),
      fun bq => SqO.is rfl (fun w hw => by go_simp),
      fun bq => SqO.of (LoosO.call (MkC.on _ _ bq) rfl rfl #[.float .f64 c11, .float .f64 ex, .float .f64 c12, .float .f64 ev] (by kernel_rfl) (eg63 _) (fun w => by exact t63 c11 ex c12 ev w)),
      fun bq => SqO.of (LoosO.st (MkC.on _ _ bq) rfl rfl (Or.inl rfl) x (fg 6).x rfl rfl rfl kg6.out),
      fun bq => SqO.is rfl (fun w hw => by go_simp),
      fun bq => SqO.is rfl (fun w hw => by have z9 := up_cell hw.1 b1; go_simp),
      fun bq => SqO.is rfl (fun w hw => by go_simp),
      fun bq => SqO.is rfl (fun w hw => by go_simp),
      fun bq => SqO.is rfl (fun w hw => by go_simp),
      fun bq => SqO.is rfl (fun w hw => by go_simp),
      fun bq => SqO.of (LoosO.call (MkC.on _ _ bq) rfl rfl #[.float .f64 c21, .float .f64 ex, .float .f64 c22, .float .f64 ev] (by kernel_rfl) (eg63 _) (fun w => by exact t63 c21 ex c22 ev w)),
      fun bq => SqO.of (LoosO.st (MkC.on _ _ bq) rfl rfl (Or.inl rfl) v (fg 14).x rfl rfl rfl kg14.out),
      fun bq => SqO.is rfl (fun w hw => by go_simp),
      fun bq => SqO.is rfl (fun w hw => by have z9 := up_cell hw.1 b2; go_simp),
      fun bq => SqO.is rfl (fun w hw => by go_simp),
      fun bq => SqO.is rfl (fun w hw => by go_simp),
      fun bq => SqO.is rfl (fun w hw => by go_simp),
      fun bq => SqO.is rfl (fun w hw => by go_simp),
      fun bq => SqO.of (LoosO.call (MkC.on _ _ bq) rfl rfl #[.float .f64 s11, .float .f64 c11, .float .f64 s12, .float .f64 c12] (by kernel_rfl) (eg63 _) (fun w => by exact t63 s11 c11 s12 c12 w)),
      fun bq => SqO.of (LoosO.st (MkC.on _ _ bq) rfl rfl (Or.inl rfl) a (fg 22).x rfl rfl rfl kg22.out),
      fun bq => SqO.is rfl (fun w hw => by go_simp),
      fun bq => SqO.is rfl (fun w hw => by have z9 := up_cell hw.1 b3; go_simp),
      fun bq => SqO.is rfl (fun w hw => by go_simp),
      fun bq => SqO.is rfl (fun w hw => by go_simp),
      fun bq => SqO.is rfl (fun w hw => by go_simp),
      fun bq => SqO.is rfl (fun w hw => by go_simp),
      fun bq => SqO.of (LoosO.call (MkC.on _ _ bq) rfl rfl #[.float .f64 s11, .float .f64 c21, .float .f64 s12, .float .f64 c22] (by kernel_rfl) (eg63 _) (fun w => by exact t63 s11 c21 s12 c22 w)),
      fun bq => SqO.of (LoosO.st (MkC.on _ _ bq) rfl rfl (Or.inl rfl) b (fg 30).x rfl rfl rfl kg30.out),
      fun bq => SqO.is rfl (fun w hw => by go_simp),
      fun bq => SqO.is rfl (fun w hw => by have z9 := up_cell hw.1 b4; go_simp),
      fun bq => SqO.is rfl (fun w hw => by go_simp),
      fun bq => SqO.is rfl (fun w hw => by go_simp),
      fun bq => SqO.is rfl (fun w hw => by go_simp),
      fun bq => SqO.is rfl (fun w hw => by go_simp),
      fun bq => SqO.of (LoosO.call (MkC.on _ _ bq) rfl rfl #[.float .f64 s21, .float .f64 c21, .float .f64 s22, .float .f64 c22] (by kernel_rfl) (eg63 _) (fun w => by exact t63 s21 c21 s22 c22 w)),
      fun bq => SqO.of (LoosO.st (MkC.on _ _ bq) rfl rfl (Or.inl rfl) c (fg 38).x rfl rfl rfl kg38.out),
      fun bq => SqO.bd (s := ⟨(fg 7).x, (fg 15).x, (fg 23).x, (fg 31).x, (fg 39).x⟩) rfl (fun w hw => by go_simp) (ab5 kg7.out kg15.out kg23.out kg31.out kg39.out),
      MkC.mk rfl (fun w => by go_simp), trivial⟩, ?_⟩
    rintro w9 ⟨U9, Z9⟩
    simp only [List.drop_succ_cons, List.drop_zero]
    have KR : Hid ((fg 40).ab = rawF ⟨ab px, ab pv, ab pa, ab pb, ab pc⟩ ⟨ab x, ab v, ab a, ab b, ab c⟩ ⟨ab nx, ab nv, ab na, ab nb, ab nc⟩ (ab c11) (ab c12) (ab c21) (ab c22)) := by
      show (fg 40).ab = _
      rw [KR0.out]
      exact kg40.out
    clear kg6 kg7 kg14 kg15 kg22 kg23 kg30 kg31 kg38 kg39 kg40 KR0
    generalize fg 40 = R at *
    obtain ⟨rx, rv, ra, rb, rc⟩ := R
    have Z9' : w9.heap[W5.heap.size]? = some (.cells #[.float .f64 0, .float .f64 0, .float .f64 0, .float .f64 0, .float .f64 0] 27) := Z9
    have hgr : gr < W5.heap.size := (Array.getElem?_eq_some_iff.1 RR5.out).1
    have hgs : gs < W5.heap.size := (Array.getElem?_eq_some_iff.1 RS5.out).1
    have L9 : Hid (w9.heap[gr]? = some (.cells #[.float .f64 0, .float .f64 0, .float .f64 0, .float .f64 0, .float .f64 0] 27)) := row_up RR5.out U9
    have S9 : Hid (w9.heap[gs]? = some (.cells #[.float .f64 x, .float .f64 v, .float .f64 a, .float .f64 b, .float .f64 c] 27)) := row_up RS5.out U9
    have U10 : Hid (Up w w9) := U5.out.trans U9
    clear Z9 U9 U5
    obtain ⟨z0, z1, z2, z3, z4⟩ := BC.of_row Z9'
    have fz : ∀ i, w9.frozen? ⟨W5.heap.size, i, none⟩ = false := fun i => by unfold World.frozen?; simp only [Z9']; rfl
    have fz0 := fz 0
    have fz1 := fz 1
    have fz2 := fz 2
    have fz3 := fz 3
    have fz4 := fz 4
    have Z10 : Hid _ := Z9'
    clear fz Z9'
    generalize W5.heap.size = gq at *
    go_upto_region 23 with fail
    have hgq : w.heap.size ≤ gq := Nat.le_of_lt (Nat.lt_of_le_of_lt HG'.out hgr)
    obtain ⟨RQ, BQ, U11⟩ := five_put Z10.out rfl U10.out hgq (.float .f64 rx) (.float .f64 rv) (.float .f64 ra) (.float .f64 rb) (.float .f64 rc)
    have L11 := (BQ gr hgr).trans L9.out
    have S11 := (BQ gs hgs).trans S9.out
    clear L9 S9 U10 Z10 BQ z0 z1 z2 z3 z4 fz0 fz1 fz2 fz3 fz4
    generalize ((((w9.setCell ⟨gq, 0, none⟩ (.float .f64 rx)).setCell ⟨gq, 1, none⟩ (.float .f64 rv)).setCell ⟨gq, 2, none⟩ (.float .f64 ra)).setCell ⟨gq, 3, none⟩ (.float .f64 rb)).setCell ⟨gq, 4, none⟩ (.float .f64 rc) = W6 at *
    have fq : ∀ i, W6.frozen? ⟨gq, i, none⟩ = false := fun i => by unfold World.frozen?; simp only [RQ]; rfl
    have fq2 := fq 2
    have fq4 := fq 4
    clear fq
    obtain ⟨y0, y1, y2, y3, y4⟩ := BC.of_row RQ
    have HRQ : Hid _ := RQ
    have HL11 : Hid _ := L11
    have HS11 : Hid _ := S11
    have HU11 : Hid _ := U11
    have HGQ : Hid _ := hgq
    have HLT : Hid (gr < gq ∧ gs < gq) := ⟨hgr, hgs⟩
    clear RQ L11 S11 U11 hgq hgr hgs
    cases hla : ltF (ab ra) (ab 0) <;> cases hlc : ltF (ab rc) (ab 0)
    · go_upto_region 27 with fail
      have RQ7 := HRQ.out
      have U7 := HU11.out
      have BQ7 : ∀ k, k < gq → W6.heap[k]? = W6.heap[k]? := fun k _ => rfl
      have L7 := (BQ7 gr HLT.out.1).trans HL11.out
      have S7 := (BQ7 gs HLT.out.2).trans HS11.out
      clear y0 y1 y2 y3 y4 fq2 fq4 BQ7
      generalize W6 = W7 at *
      have HN : Hid (nextF ⟨ab px, ab pv, ab pa, ab pb, ab pc⟩ ⟨ab x, ab v, ab a, ab b, ab c⟩ ⟨ab nx, ab nv, ab na, ab nb, ab nc⟩ (ab c11) (ab c12) (ab c21) (ab c22) = ⟨ab rx, ab rv, ab ra, ab rb, ab rc⟩) := by
        show _ = _
        rw [next_raw, ← KR.out]
        show S5.mk (ab rx) (ab rv) (nb0F (ab ra)) (ab rb) (nb0F (ab rc)) = _
        unfold nb0F
        rw [hla, hlc]
        rfl
      have HM : Hid (mayF ⟨ab rx, ab rv, ab ra, ab rb, ab rc⟩ = (fin (ab rx) && fin (ab rv) && fin (ab ra) && fin (ab rb) && fin (ab rc))) := by
        have h9 := may_fin ⟨ab rx, ab rv, ab ra, ab rb, ab rc⟩
        unfold nb0F at h9
        rw [hla, hlc] at h9
        exact h9
      have HST : Hid (stepF ⟨ab x, ab v, ab a, ab b, ab c⟩ (ab t) (ab q) ⟨ab nx, ab nv, ab na, ab nb, ab nc⟩ = if (fin (ab rx) && fin (ab rv) && fin (ab ra) && fin (ab rb) && fin (ab rc)) = true then ⟨ab rx, ab rv, ab ra, ab rb, ab rc⟩ else ⟨ab x, ab v, ab a, ab b, ab c⟩) := by
        show _ = _
        unfold stepF
        rw [if_pos HZ.out, ← KD.out, ← eP.out, ← KC.out.1, ← KC.out.2.1, ← KC.out.2.2.1, ← KC.out.2.2.2]
        unfold afterF
        rw [HN.out, HM.out]
      clear HN HM hla hlc
      have fz : ∀ i, W7.frozen? ⟨gr, i, none⟩ = false := fun i => by unfold World.frozen?; simp only [L7]; rfl
      have fz0 := fz 0
      have fz1 := fz 1
      have fz2 := fz 2
      have fz3 := fz 3
      have fz4 := fz 4
      clear fz
      have HL7 : Hid _ := L7
      have HU7 : Hid _ := U7
      obtain ⟨l0, l1, l2, l3, l4⟩ := BC.of_row L7
      obtain ⟨q0, q1, q2, q3, q4⟩ := BC.of_row RQ7
      obtain ⟨y0, y1, y2, y3, y4⟩ := BC.of_row S7
      clear RQ7 L7 S7 U7
      cases f0 : fin (ab rx)
      · have HA : Hid (stepF ⟨ab x, ab v, ab a, ab b, ab c⟩ (ab t) (ab q) ⟨ab nx, ab nv, ab na, ab nb, ab nc⟩ = ⟨ab x, ab v, ab a, ab b, ab c⟩) := by show _ = _; rw [HST.out, f0]; simp
        go_wp2_with (first | (go_at_call 32; (with_reducible refine (t32 rx _).mono ?_); rintro e w' ⟨rfl, hw⟩; subst w'; rw [f0]))
        exact bodyPost_ret (results_cell_row Try.results33 _ _ _ 27 #[.float .f64 x, .float .f64 v, .float .f64 a, .float .f64 b, .float .f64 c] (0, 0) _ rfl (set5 HL7.out rfl _ _ _ _ _) Try.underlying27 rfl (by kernel_rfl)) rfl ⟨x, v, a, b, c, rfl, by show _ ∧ _; have := HA.out; simp only [Stt.ab]; rw [this]; exact ⟨rfl, rfl, rfl, rfl, rfl⟩, up_set5 HU7.out HG'.out _ _ _ _ _⟩
      cases f1 : fin (ab rv)
      · have HA : Hid (stepF ⟨ab x, ab v, ab a, ab b, ab c⟩ (ab t) (ab q) ⟨ab nx, ab nv, ab na, ab nb, ab nc⟩ = ⟨ab x, ab v, ab a, ab b, ab c⟩) := by show _ = _; rw [HST.out, f0, f1]; simp
        go_wp2_with (first | (go_at_call 32; (with_reducible refine (t32 rx _).mono ?_); rintro e w' ⟨rfl, hw⟩; subst w'; rw [f0]) | (go_at_call 32; (with_reducible refine (t32 rv _).mono ?_); rintro e w' ⟨rfl, hw⟩; subst w'; rw [f1]))
        exact bodyPost_ret (results_cell_row Try.results33 _ _ _ 27 #[.float .f64 x, .float .f64 v, .float .f64 a, .float .f64 b, .float .f64 c] (0, 0) _ rfl (set5 HL7.out rfl _ _ _ _ _) Try.underlying27 rfl (by kernel_rfl)) rfl ⟨x, v, a, b, c, rfl, by show _ ∧ _; have := HA.out; simp only [Stt.ab]; rw [this]; exact ⟨rfl, rfl, rfl, rfl, rfl⟩, up_set5 HU7.out HG'.out _ _ _ _ _⟩
      cases f2 : fin (ab ra)
      · have HA : Hid (stepF ⟨ab x, ab v, ab a, ab b, ab c⟩ (ab t) (ab q) ⟨ab nx, ab nv, ab na, ab nb, ab nc⟩ = ⟨ab x, ab v, ab a, ab b, ab c⟩) := by show _ = _; rw [HST.out, f0, f1, f2]; simp
        go_wp2_with (first | (go_at_call 32; (with_reducible refine (t32 rx _).mono ?_); rintro e w' ⟨rfl, hw⟩; subst w'; rw [f0]) | (go_at_call 32; (with_reducible refine (t32 rv _).mono ?_); rintro e w' ⟨rfl, hw⟩; subst w'; rw [f1]) | (go_at_call 32; (with_reducible refine (t32 ra _).mono ?_); rintro e w' ⟨rfl, hw⟩; subst w'; rw [f2]))
        exact bodyPost_ret (results_cell_row Try.results33 _ _ _ 27 #[.float .f64 x, .float .f64 v, .float .f64 a, .float .f64 b, .float .f64 c] (0, 0) _ rfl (set5 HL7.out rfl _ _ _ _ _) Try.underlying27 rfl (by kernel_rfl)) rfl ⟨x, v, a, b, c, rfl, by show _ ∧ _; have := HA.out; simp only [Stt.ab]; rw [this]; exact ⟨rfl, rfl, rfl, rfl, rfl⟩, up_set5 HU7.out HG'.out _ _ _ _ _⟩
      cases f3 : fin (ab rb)
      · have HA : Hid (stepF ⟨ab x, ab v, ab a, ab b, ab c⟩ (ab t) (ab q) ⟨ab nx, ab nv, ab na, ab nb, ab nc⟩ = ⟨ab x, ab v, ab a, ab b, ab c⟩) := by show _ = _; rw [HST.out, f0, f1, f2, f3]; simp
        go_wp2_with (first | (go_at_call 32; (with_reducible refine (t32 rx _).mono ?_); rintro e w' ⟨rfl, hw⟩; subst w'; rw [f0]) | (go_at_call 32; (with_reducible refine (t32 rv _).mono ?_); rintro e w' ⟨rfl, hw⟩; subst w'; rw [f1]) | (go_at_call 32; (with_reducible refine (t32 ra _).mono ?_); rintro e w' ⟨rfl, hw⟩; subst w'; rw [f2]) | (go_at_call 32; (with_reducible refine (t32 rb _).mono ?_); rintro e w' ⟨rfl, hw⟩; subst w'; rw [f3]))
        exact bodyPost_ret (results_cell_row Try.results33 _ _ _ 27 #[.float .f64 x, .float .f64 v, .float .f64 a, .float .f64 b, .float .f64 c] (0, 0) _ rfl (set5 HL7.out rfl _ _ _ _ _) Try.underlying27 rfl (by kernel_rfl)) rfl ⟨x, v, a, b, c, rfl, by show _ ∧ _; have := HA.out; simp only [Stt.ab]; rw [this]; exact ⟨rfl, rfl, rfl, rfl, rfl⟩, up_set5 HU7.out HG'.out _ _ _ _ _⟩
      cases f4 : fin (ab rc)
      · have HA : Hid (stepF ⟨ab x, ab v, ab a, ab b, ab c⟩ (ab t) (ab q) ⟨ab nx, ab nv, ab na, ab nb, ab nc⟩ = ⟨ab x, ab v, ab a, ab b, ab c⟩) := by show _ = _; rw [HST.out, f0, f1, f2, f3, f4]; simp
        go_wp2_with (first | (go_at_call 32; (with_reducible refine (t32 rx _).mono ?_); rintro e w' ⟨rfl, hw⟩; subst w'; rw [f0]) | (go_at_call 32; (with_reducible refine (t32 rv _).mono ?_); rintro e w' ⟨rfl, hw⟩; subst w'; rw [f1]) | (go_at_call 32; (with_reducible refine (t32 ra _).mono ?_); rintro e w' ⟨rfl, hw⟩; subst w'; rw [f2]) | (go_at_call 32; (with_reducible refine (t32 rb _).mono ?_); rintro e w' ⟨rfl, hw⟩; subst w'; rw [f3]) | (go_at_call 32; (with_reducible refine (t32 rc _).mono ?_); rintro e w' ⟨rfl, hw⟩; subst w'; rw [f4]))
        exact bodyPost_ret (results_cell_row Try.results33 _ _ _ 27 #[.float .f64 x, .float .f64 v, .float .f64 a, .float .f64 b, .float .f64 c] (0, 0) _ rfl (set5 HL7.out rfl _ _ _ _ _) Try.underlying27 rfl (by kernel_rfl)) rfl ⟨x, v, a, b, c, rfl, by show _ ∧ _; have := HA.out; simp only [Stt.ab]; rw [this]; exact ⟨rfl, rfl, rfl, rfl, rfl⟩, up_set5 HU7.out HG'.out _ _ _ _ _⟩
      have HA : Hid (stepF ⟨ab x, ab v, ab a, ab b, ab c⟩ (ab t) (ab q) ⟨ab nx, ab nv, ab na, ab nb, ab nc⟩ = ⟨ab rx, ab rv, ab ra, ab rb, ab rc⟩) := by show _ = _; rw [HST.out, f0, f1, f2, f3, f4]; rfl
      go_wp2_with (first | (go_at_call 32; (with_reducible refine (t32 rx _).mono ?_); rintro e w' ⟨rfl, hw⟩; subst w'; rw [f0]) | (go_at_call 32; (with_reducible refine (t32 rv _).mono ?_); rintro e w' ⟨rfl, hw⟩; subst w'; rw [f1]) | (go_at_call 32; (with_reducible refine (t32 ra _).mono ?_); rintro e w' ⟨rfl, hw⟩; subst w'; rw [f2]) | (go_at_call 32; (with_reducible refine (t32 rb _).mono ?_); rintro e w' ⟨rfl, hw⟩; subst w'; rw [f3]) | (go_at_call 32; (with_reducible refine (t32 rc _).mono ?_); rintro e w' ⟨rfl, hw⟩; subst w'; rw [f4]))
      exact bodyPost_ret (results_cell_row Try.results33 _ _ _ 27 #[.float .f64 rx, .float .f64 rv, .float .f64 ra, .float .f64 rb, .float .f64 rc] (0, 0) _ rfl (set5 HL7.out rfl _ _ _ _ _) Try.underlying27 rfl (by kernel_rfl)) rfl ⟨rx, rv, ra, rb, rc, rfl, by show _ ∧ _; have := HA.out; simp only [Stt.ab]; rw [this]; exact ⟨rfl, rfl, rfl, rfl, rfl⟩, up_set5 HU7.out HG'.out _ _ _ _ _⟩
    · go_upto_region 27 with fail
      obtain ⟨RQ7, BQ7, U7⟩ := row_set4 HRQ.out HU11.out HGQ.out (.float .f64 0)
      have L7 := (BQ7 gr HLT.out.1).trans HL11.out
      have S7 := (BQ7 gs HLT.out.2).trans HS11.out
      clear y0 y1 y2 y3 y4 fq2 fq4 BQ7
      generalize (W6.setCell ⟨gq, 4, none⟩ (.float .f64 0)) = W7 at *
      have HN : Hid (nextF ⟨ab px, ab pv, ab pa, ab pb, ab pc⟩ ⟨ab x, ab v, ab a, ab b, ab c⟩ ⟨ab nx, ab nv, ab na, ab nb, ab nc⟩ (ab c11) (ab c12) (ab c21) (ab c22) = ⟨ab rx, ab rv, ab ra, ab rb, ab 0⟩) := by
        show _ = _
        rw [next_raw, ← KR.out]
        show S5.mk (ab rx) (ab rv) (nb0F (ab ra)) (ab rb) (nb0F (ab rc)) = _
        unfold nb0F
        rw [hla, hlc]
        rfl
      have HM : Hid (mayF ⟨ab rx, ab rv, ab ra, ab rb, ab 0⟩ = (fin (ab rx) && fin (ab rv) && fin (ab ra) && fin (ab rb) && fin (ab 0))) := by
        have h9 := may_fin ⟨ab rx, ab rv, ab ra, ab rb, ab rc⟩
        unfold nb0F at h9
        rw [hla, hlc] at h9
        exact h9
      have HST : Hid (stepF ⟨ab x, ab v, ab a, ab b, ab c⟩ (ab t) (ab q) ⟨ab nx, ab nv, ab na, ab nb, ab nc⟩ = if (fin (ab rx) && fin (ab rv) && fin (ab ra) && fin (ab rb) && fin (ab 0)) = true then ⟨ab rx, ab rv, ab ra, ab rb, ab 0⟩ else ⟨ab x, ab v, ab a, ab b, ab c⟩) := by
        show _ = _
        unfold stepF
        rw [if_pos HZ.out, ← KD.out, ← eP.out, ← KC.out.1, ← KC.out.2.1, ← KC.out.2.2.1, ← KC.out.2.2.2]
        unfold afterF
        rw [HN.out, HM.out]
      clear HN HM hla hlc
      have fz : ∀ i, W7.frozen? ⟨gr, i, none⟩ = false := fun i => by unfold World.frozen?; simp only [L7]; rfl
      have fz0 := fz 0
      have fz1 := fz 1
      have fz2 := fz 2
      have fz3 := fz 3
      have fz4 := fz 4
      clear fz
      have HL7 : Hid _ := L7
      have HU7 : Hid _ := U7
      obtain ⟨l0, l1, l2, l3, l4⟩ := BC.of_row L7
      obtain ⟨q0, q1, q2, q3, q4⟩ := BC.of_row RQ7
      obtain ⟨y0, y1, y2, y3, y4⟩ := BC.of_row S7
      clear RQ7 L7 S7 U7
      cases f0 : fin (ab rx)
      · have HA : Hid (stepF ⟨ab x, ab v, ab a, ab b, ab c⟩ (ab t) (ab q) ⟨ab nx, ab nv, ab na, ab nb, ab nc⟩ = ⟨ab x, ab v, ab a, ab b, ab c⟩) := by show _ = _; rw [HST.out, f0]; simp
        go_wp2_with (first | (go_at_call 32; (with_reducible refine (t32 rx _).mono ?_); rintro e w' ⟨rfl, hw⟩; subst w'; rw [f0]))
        exact bodyPost_ret (results_cell_row Try.results33 _ _ _ 27 #[.float .f64 x, .float .f64 v, .float .f64 a, .float .f64 b, .float .f64 c] (0, 0) _ rfl (set5 HL7.out rfl _ _ _ _ _) Try.underlying27 rfl (by kernel_rfl)) rfl ⟨x, v, a, b, c, rfl, by show _ ∧ _; have := HA.out; simp only [Stt.ab]; rw [this]; exact ⟨rfl, rfl, rfl, rfl, rfl⟩, up_set5 HU7.out HG'.out _ _ _ _ _⟩
      cases f1 : fin (ab rv)
      · have HA : Hid (stepF ⟨ab x, ab v, ab a, ab b, ab c⟩ (ab t) (ab q) ⟨ab nx, ab nv, ab na, ab nb, ab nc⟩ = ⟨ab x, ab v, ab a, ab b, ab c⟩) := by show _ = _; rw [HST.out, f0, f1]; simp
        go_wp2_with (first | (go_at_call 32; (with_reducible refine (t32 rx _).mono ?_); rintro e w' ⟨rfl, hw⟩; subst w'; rw [f0]) | (go_at_call 32; (with_reducible refine (t32 rv _).mono ?_); rintro e w' ⟨rfl, hw⟩; subst w'; rw [f1]))
        exact bodyPost_ret (results_cell_row Try.results33 _ _ _ 27 #[.float .f64 x, .float .f64 v, .float .f64 a, .float .f64 b, .float .f64 c] (0, 0) _ rfl (set5 HL7.out rfl _ _ _ _ _) Try.underlying27 rfl (by kernel_rfl)) rfl ⟨x, v, a, b, c, rfl, by show _ ∧ _; have := HA.out; simp only [Stt.ab]; rw [this]; exact ⟨rfl, rfl, rfl, rfl, rfl⟩, up_set5 HU7.out HG'.out _ _ _ _ _⟩
      cases f2 : fin (ab ra)
      · have HA : Hid (stepF ⟨ab x, ab v, ab a, ab b, ab c⟩ (ab t) (ab q) ⟨ab nx, ab nv, ab na, ab nb, ab nc⟩ = ⟨ab x, ab v, ab a, ab b, ab c⟩) := by show _ = _; rw [HST.out, f0, f1, f2]; simp
        go_wp2_with (first | (go_at_call 32; (with_reducible refine (t32 rx _).mono ?_); rintro e w' ⟨rfl, hw⟩; subst w'; rw [f0]) | (go_at_call 32; (with_reducible refine (t32 rv _).mono ?_); rintro e w' ⟨rfl, hw⟩; subst w'; rw [f1]) | (go_at_call 32; (with_reducible refine (t32 ra _).mono ?_); rintro e w' ⟨rfl, hw⟩; subst w'; rw [f2]))
        exact bodyPost_ret (results_cell_row Try.results33 _ _ _ 27 #[.float .f64 x, .float .f64 v, .float .f64 a, .float .f64 b, .float .f64 c] (0, 0) _ rfl (set5 HL7.out rfl _ _ _ _ _) Try.underlying27 rfl (by kernel_rfl)) rfl ⟨x, v, a, b, c, rfl, by show _ ∧ _; have := HA.out; simp only [Stt.ab]; rw [this]; exact ⟨rfl, rfl, rfl, rfl, rfl⟩, up_set5 HU7.out HG'.out _ _ _ _ _⟩
      cases f3 : fin (ab rb)
      · have HA : Hid (stepF ⟨ab x, ab v, ab a, ab b, ab c⟩ (ab t) (ab q) ⟨ab nx, ab nv, ab na, ab nb, ab nc⟩ = ⟨ab x, ab v, ab a, ab b, ab c⟩) := by show _ = _; rw [HST.out, f0, f1, f2, f3]; simp
        go_wp2_with (first | (go_at_call 32; (with_reducible refine (t32 rx _).mono ?_); rintro e w' ⟨rfl, hw⟩; subst w'; rw [f0]) | (go_at_call 32; (with_reducible refine (t32 rv _).mono ?_); rintro e w' ⟨rfl, hw⟩; subst w'; rw [f1]) | (go_at_call 32; (with_reducible refine (t32 ra _).mono ?_); rintro e w' ⟨rfl, hw⟩; subst w'; rw [f2]) | (go_at_call 32; (with_reducible refine (t32 rb _).mono ?_); rintro e w' ⟨rfl, hw⟩; subst w'; rw [f3]))
        exact bodyPost_ret (results_cell_row Try.results33 _ _ _ 27 #[.float .f64 x, .float .f64 v, .float .f64 a, .float .f64 b, .float .f64 c] (0, 0) _ rfl (set5 HL7.out rfl _ _ _ _ _) Try.underlying27 rfl (by kernel_rfl)) rfl ⟨x, v, a, b, c, rfl, by show _ ∧ _; have := HA.out; simp only [Stt.ab]; rw [this]; exact ⟨rfl, rfl, rfl, rfl, rfl⟩, up_set5 HU7.out HG'.out _ _ _ _ _⟩
      have f4 : fin (ab 0) = true := by decide +kernel
      have HA : Hid (stepF ⟨ab x, ab v, ab a, ab b, ab c⟩ (ab t) (ab q) ⟨ab nx, ab nv, ab na, ab nb, ab nc⟩ = ⟨ab rx, ab rv, ab ra, ab rb, ab 0⟩) := by show _ = _; rw [HST.out, f0, f1, f2, f3, f4]; rfl
      go_wp2_with (first | (go_at_call 32; (with_reducible refine (t32 rx _).mono ?_); rintro e w' ⟨rfl, hw⟩; subst w'; rw [f0]) | (go_at_call 32; (with_reducible refine (t32 rv _).mono ?_); rintro e w' ⟨rfl, hw⟩; subst w'; rw [f1]) | (go_at_call 32; (with_reducible refine (t32 ra _).mono ?_); rintro e w' ⟨rfl, hw⟩; subst w'; rw [f2]) | (go_at_call 32; (with_reducible refine (t32 rb _).mono ?_); rintro e w' ⟨rfl, hw⟩; subst w'; rw [f3]) | (go_at_call 32; (with_reducible refine (t32 0 _).mono ?_); rintro e w' ⟨rfl, hw⟩; subst w'; rw [f4]))
      exact bodyPost_ret (results_cell_row Try.results33 _ _ _ 27 #[.float .f64 rx, .float .f64 rv, .float .f64 ra, .float .f64 rb, .float .f64 0] (0, 0) _ rfl (set5 HL7.out rfl _ _ _ _ _) Try.underlying27 rfl (by kernel_rfl)) rfl ⟨rx, rv, ra, rb, 0, rfl, by show _ ∧ _; have := HA.out; simp only [Stt.ab]; rw [this]; exact ⟨rfl, rfl, rfl, rfl, rfl⟩, up_set5 HU7.out HG'.out _ _ _ _ _⟩
    · go_upto_region 27 with fail
      obtain ⟨RQ7, BQ7, U7⟩ := row_set2 HRQ.out HU11.out HGQ.out (.float .f64 0)
      have L7 := (BQ7 gr HLT.out.1).trans HL11.out
      have S7 := (BQ7 gs HLT.out.2).trans HS11.out
      clear y0 y1 y2 y3 y4 fq2 fq4 BQ7
      generalize (W6.setCell ⟨gq, 2, none⟩ (.float .f64 0)) = W7 at *
      have HN : Hid (nextF ⟨ab px, ab pv, ab pa, ab pb, ab pc⟩ ⟨ab x, ab v, ab a, ab b, ab c⟩ ⟨ab nx, ab nv, ab na, ab nb, ab nc⟩ (ab c11) (ab c12) (ab c21) (ab c22) = ⟨ab rx, ab rv, ab 0, ab rb, ab rc⟩) := by
        show _ = _
        rw [next_raw, ← KR.out]
        show S5.mk (ab rx) (ab rv) (nb0F (ab ra)) (ab rb) (nb0F (ab rc)) = _
        unfold nb0F
        rw [hla, hlc]
        rfl
      have HM : Hid (mayF ⟨ab rx, ab rv, ab 0, ab rb, ab rc⟩ = (fin (ab rx) && fin (ab rv) && fin (ab 0) && fin (ab rb) && fin (ab rc))) := by
        have h9 := may_fin ⟨ab rx, ab rv, ab ra, ab rb, ab rc⟩
        unfold nb0F at h9
        rw [hla, hlc] at h9
        exact h9
      have HST : Hid (stepF ⟨ab x, ab v, ab a, ab b, ab c⟩ (ab t) (ab q) ⟨ab nx, ab nv, ab na, ab nb, ab nc⟩ = if (fin (ab rx) && fin (ab rv) && fin (ab 0) && fin (ab rb) && fin (ab rc)) = true then ⟨ab rx, ab rv, ab 0, ab rb, ab rc⟩ else ⟨ab x, ab v, ab a, ab b, ab c⟩) := by
        show _ = _
        unfold stepF
        rw [if_pos HZ.out, ← KD.out, ← eP.out, ← KC.out.1, ← KC.out.2.1, ← KC.out.2.2.1, ← KC.out.2.2.2]
        unfold afterF
        rw [HN.out, HM.out]
      clear HN HM hla hlc
      have fz : ∀ i, W7.frozen? ⟨gr, i, none⟩ = false := fun i => by unfold World.frozen?; simp only [L7]; rfl
      have fz0 := fz 0
      have fz1 := fz 1
      have fz2 := fz 2
      have fz3 := fz 3
      have fz4 := fz 4
      clear fz
      have HL7 : Hid _ := L7
      have HU7 : Hid _ := U7
      obtain ⟨l0, l1, l2, l3, l4⟩ := BC.of_row L7
      obtain ⟨q0, q1, q2, q3, q4⟩ := BC.of_row RQ7
      obtain ⟨y0, y1, y2, y3, y4⟩ := BC.of_row S7
      clear RQ7 L7 S7 U7
      cases f0 : fin (ab rx)
      · have HA : Hid (stepF ⟨ab x, ab v, ab a, ab b, ab c⟩ (ab t) (ab q) ⟨ab nx, ab nv, ab na, ab nb, ab nc⟩ = ⟨ab x, ab v, ab a, ab b, ab c⟩) := by show _ = _; rw [HST.out, f0]; simp
        go_wp2_with (first | (go_at_call 32; (with_reducible refine (t32 rx _).mono ?_); rintro e w' ⟨rfl, hw⟩; subst w'; rw [f0]))
        exact bodyPost_ret (results_cell_row Try.results33 _ _ _ 27 #[.float .f64 x, .float .f64 v, .float .f64 a, .float .f64 b, .float .f64 c] (0, 0) _ rfl (set5 HL7.out rfl _ _ _ _ _) Try.underlying27 rfl (by kernel_rfl)) rfl ⟨x, v, a, b, c, rfl, by show _ ∧ _; have := HA.out; simp only [Stt.ab]; rw [this]; exact ⟨rfl, rfl, rfl, rfl, rfl⟩, up_set5 HU7.out HG'.out _ _ _ _ _⟩
      cases f1 : fin (ab rv)
      · have HA : Hid (stepF ⟨ab x, ab v, ab a, ab b, ab c⟩ (ab t) (ab q) ⟨ab nx, ab nv, ab na, ab nb, ab nc⟩ = ⟨ab x, ab v, ab a, ab b, ab c⟩) := by show _ = _; rw [HST.out, f0, f1]; simp
        go_wp2_with (first | (go_at_call 32; (with_reducible refine (t32 rx _).mono ?_); rintro e w' ⟨rfl, hw⟩; subst w'; rw [f0]) | (go_at_call 32; (with_reducible refine (t32 rv _).mono ?_); rintro e w' ⟨rfl, hw⟩; subst w'; rw [f1]))
        exact bodyPost_ret (results_cell_row Try.results33 _ _ _ 27 #[.float .f64 x, .float .f64 v, .float .f64 a, .float .f64 b, .float .f64 c] (0, 0) _ rfl (set5 HL7.out rfl _ _ _ _ _) Try.underlying27 rfl (by kernel_rfl)) rfl ⟨x, v, a, b, c, rfl, by show _ ∧ _; have := HA.out; simp only [Stt.ab]; rw [this]; exact ⟨rfl, rfl, rfl, rfl, rfl⟩, up_set5 HU7.out HG'.out _ _ _ _ _⟩
      have f2 : fin (ab 0) = true := by decide +kernel
      cases f3 : fin (ab rb)
      · have HA : Hid (stepF ⟨ab x, ab v, ab a, ab b, ab c⟩ (ab t) (ab q) ⟨ab nx, ab nv, ab na, ab nb, ab nc⟩ = ⟨ab x, ab v, ab a, ab b, ab c⟩) := by show _ = _; rw [HST.out, f0, f1, f2, f3]; simp
        go_wp2_with (first | (go_at_call 32; (with_reducible refine (t32 rx _).mono ?_); rintro e w' ⟨rfl, hw⟩; subst w'; rw [f0]) | (go_at_call 32; (with_reducible refine (t32 rv _).mono ?_); rintro e w' ⟨rfl, hw⟩; subst w'; rw [f1]) | (go_at_call 32; (with_reducible refine (t32 0 _).mono ?_); rintro e w' ⟨rfl, hw⟩; subst w'; rw [f2]) | (go_at_call 32; (with_reducible refine (t32 rb _).mono ?_); rintro e w' ⟨rfl, hw⟩; subst w'; rw [f3]))
        exact bodyPost_ret (results_cell_row Try.results33 _ _ _ 27 #[.float .f64 x, .float .f64 v, .float .f64 a, .float .f64 b, .float .f64 c] (0, 0) _ rfl (set5 HL7.out rfl _ _ _ _ _) Try.underlying27 rfl (by kernel_rfl)) rfl ⟨x, v, a, b, c, rfl, by show _ ∧ _; have := HA.out; simp only [Stt.ab]; rw [this]; exact ⟨rfl, rfl, rfl, rfl, rfl⟩, up_set5 HU7.out HG'.out _ _ _ _ _⟩
      cases f4 : fin (ab rc)
      · have HA : Hid (stepF ⟨ab x, ab v, ab a, ab b, ab c⟩ (ab t) (ab q) ⟨ab nx, ab nv, ab na, ab nb, ab nc⟩ = ⟨ab x, ab v, ab a, ab b, ab c⟩) := by show _ = _; rw [HST.out, f0, f1, f2, f3, f4]; simp
        go_wp2_with (first | (go_at_call 32; (with_reducible refine (t32 rx _).mono ?_); rintro e w' ⟨rfl, hw⟩; subst w'; rw [f0]) | (go_at_call 32; (with_reducible refine (t32 rv _).mono ?_); rintro e w' ⟨rfl, hw⟩; subst w'; rw [f1]) | (go_at_call 32; (with_reducible refine (t32 0 _).mono ?_); rintro e w' ⟨rfl, hw⟩; subst w'; rw [f2]) | (go_at_call 32; (with_reducible refine (t32 rb _).mono ?_); rintro e w' ⟨rfl, hw⟩; subst w'; rw [f3]) | (go_at_call 32; (with_reducible refine (t32 rc _).mono ?_); rintro e w' ⟨rfl, hw⟩; subst w'; rw [f4]))
        exact bodyPost_ret (results_cell_row Try.results33 _ _ _ 27 #[.float .f64 x, .float .f64 v, .float .f64 a, .float .f64 b, .float .f64 c] (0, 0) _ rfl (set5 HL7.out rfl _ _ _ _ _) Try.underlying27 rfl (by kernel_rfl)) rfl ⟨x, v, a, b, c, rfl, by show _ ∧ _; have := HA.out; simp only [Stt.ab]; rw [this]; exact ⟨rfl, rfl, rfl, rfl, rfl⟩, up_set5 HU7.out HG'.out _ _ _ _ _⟩
      have HA : Hid (stepF ⟨ab x, ab v, ab a, ab b, ab c⟩ (ab t) (ab q) ⟨ab nx, ab nv, ab na, ab nb, ab nc⟩ = ⟨ab rx, ab rv, ab 0, ab rb, ab rc⟩) := by show _ = _; rw [HST.out, f0, f1, f2, f3, f4]; rfl
      go_wp2_with (first | (go_at_call 32; (with_reducible refine (t32 rx _).mono ?_); rintro e w' ⟨rfl, hw⟩; subst w'; rw [f0]) | (go_at_call 32; (with_reducible refine (t32 rv _).mono ?_); rintro e w' ⟨rfl, hw⟩; subst w'; rw [f1]) | (go_at_call 32; (with_reducible refine (t32 0 _).mono ?_); rintro e w' ⟨rfl, hw⟩; subst w'; rw [f2]) | (go_at_call 32; (with_reducible refine (t32 rb _).mono ?_); rintro e w' ⟨rfl, hw⟩; subst w'; rw [f3]) | (go_at_call 32; (with_reducible refine (t32 rc _).mono ?_); rintro e w' ⟨rfl, hw⟩; subst w'; rw [f4]))
      exact bodyPost_ret (results_cell_row Try.results33 _ _ _ 27 #[.float .f64 rx, .float .f64 rv, .float .f64 0, .float .f64 rb, .float .f64 rc] (0, 0) _ rfl (set5 HL7.out rfl _ _ _ _ _) Try.underlying27 rfl (by kernel_rfl)) rfl ⟨rx, rv, 0, rb, rc, rfl, by show _ ∧ _; have := HA.out; simp only [Stt.ab]; rw [this]; exact ⟨rfl, rfl, rfl, rfl, rfl⟩, up_set5 HU7.out HG'.out _ _ _ _ _⟩
    · go_upto_region 27 with fail
      obtain ⟨RQ8, BQ8, U8⟩ := row_set2 HRQ.out HU11.out HGQ.out (.float .f64 0)
      obtain ⟨RQ7, BQ9, U7⟩ := row_set4 RQ8 U8 HGQ.out (.float .f64 0)
      have BQ7 : ∀ k, k < gq → ((W6.setCell ⟨gq, 2, none⟩ (.float .f64 0)).setCell ⟨gq, 4, none⟩ (.float .f64 0)).heap[k]? = W6.heap[k]? := fun k hk => (BQ9 k hk).trans (BQ8 k hk)
      clear RQ8 BQ8 U8 BQ9
      have L7 := (BQ7 gr HLT.out.1).trans HL11.out
      have S7 := (BQ7 gs HLT.out.2).trans HS11.out
      clear y0 y1 y2 y3 y4 fq2 fq4 BQ7
      generalize ((W6.setCell ⟨gq, 2, none⟩ (.float .f64 0)).setCell ⟨gq, 4, none⟩ (.float .f64 0)) = W7 at *
      have HN : Hid (nextF ⟨ab px, ab pv, ab pa, ab pb, ab pc⟩ ⟨ab x, ab v, ab a, ab b, ab c⟩ ⟨ab nx, ab nv, ab na, ab nb, ab nc⟩ (ab c11) (ab c12) (ab c21) (ab c22) = ⟨ab rx, ab rv, ab 0, ab rb, ab 0⟩) := by
        show _ = _
        rw [next_raw, ← KR.out]
        show S5.mk (ab rx) (ab rv) (nb0F (ab ra)) (ab rb) (nb0F (ab rc)) = _
        unfold nb0F
        rw [hla, hlc]
        rfl
      have HM : Hid (mayF ⟨ab rx, ab rv, ab 0, ab rb, ab 0⟩ = (fin (ab rx) && fin (ab rv) && fin (ab 0) && fin (ab rb) && fin (ab 0))) := by
        have h9 := may_fin ⟨ab rx, ab rv, ab ra, ab rb, ab rc⟩
        unfold nb0F at h9
        rw [hla, hlc] at h9
        exact h9
      have HST : Hid (stepF ⟨ab x, ab v, ab a, ab b, ab c⟩ (ab t) (ab q) ⟨ab nx, ab nv, ab na, ab nb, ab nc⟩ = if (fin (ab rx) && fin (ab rv) && fin (ab 0) && fin (ab rb) && fin (ab 0)) = true then ⟨ab rx, ab rv, ab 0, ab rb, ab 0⟩ else ⟨ab x, ab v, ab a, ab b, ab c⟩) := by
        show _ = _
        unfold stepF
        rw [if_pos HZ.out, ← KD.out, ← eP.out, ← KC.out.1, ← KC.out.2.1, ← KC.out.2.2.1, ← KC.out.2.2.2]
        unfold afterF
        rw [HN.out, HM.out]
      clear HN HM hla hlc
      have fz : ∀ i, W7.frozen? ⟨gr, i, none⟩ = false := fun i => by unfold World.frozen?; simp only [L7]; rfl
      have fz0 := fz 0
      have fz1 := fz 1
      have fz2 := fz 2
      have fz3 := fz 3
      have fz4 := fz 4
      clear fz
      have HL7 : Hid _ := L7
      have HU7 : Hid _ := U7
      obtain ⟨l0, l1, l2, l3, l4⟩ := BC.of_row L7
      obtain ⟨q0, q1, q2, q3, q4⟩ := BC.of_row RQ7
      obtain ⟨y0, y1, y2, y3, y4⟩ := BC.of_row S7
      clear RQ7 L7 S7 U7
      cases f0 : fin (ab rx)
      · have HA : Hid (stepF ⟨ab x, ab v, ab a, ab b, ab c⟩ (ab t) (ab q) ⟨ab nx, ab nv, ab na, ab nb, ab nc⟩ = ⟨ab x, ab v, ab a, ab b, ab c⟩) := by show _ = _; rw [HST.out, f0]; simp
        go_wp2_with (first | (go_at_call 32; (with_reducible refine (t32 rx _).mono ?_); rintro e w' ⟨rfl, hw⟩; subst w'; rw [f0]))
        exact bodyPost_ret (results_cell_row Try.results33 _ _ _ 27 #[.float .f64 x, .float .f64 v, .float .f64 a, .float .f64 b, .float .f64 c] (0, 0) _ rfl (set5 HL7.out rfl _ _ _ _ _) Try.underlying27 rfl (by kernel_rfl)) rfl ⟨x, v, a, b, c, rfl, by show _ ∧ _; have := HA.out; simp only [Stt.ab]; rw [this]; exact ⟨rfl, rfl, rfl, rfl, rfl⟩, up_set5 HU7.out HG'.out _ _ _ _ _⟩
      cases f1 : fin (ab rv)
      · have HA : Hid (stepF ⟨ab x, ab v, ab a, ab b, ab c⟩ (ab t) (ab q) ⟨ab nx, ab nv, ab na, ab nb, ab nc⟩ = ⟨ab x, ab v, ab a, ab b, ab c⟩) := by show _ = _; rw [HST.out, f0, f1]; simp
        go_wp2_with (first | (go_at_call 32; (with_reducible refine (t32 rx _).mono ?_); rintro e w' ⟨rfl, hw⟩; subst w'; rw [f0]) | (go_at_call 32; (with_reducible refine (t32 rv _).mono ?_); rintro e w' ⟨rfl, hw⟩; subst w'; rw [f1]))
        exact bodyPost_ret (results_cell_row Try.results33 _ _ _ 27 #[.float .f64 x, .float .f64 v, .float .f64 a, .float .f64 b, .float .f64 c] (0, 0) _ rfl (set5 HL7.out rfl _ _ _ _ _) Try.underlying27 rfl (by kernel_rfl)) rfl ⟨x, v, a, b, c, rfl, by show _ ∧ _; have := HA.out; simp only [Stt.ab]; rw [this]; exact ⟨rfl, rfl, rfl, rfl, rfl⟩, up_set5 HU7.out HG'.out _ _ _ _ _⟩
      have f2 : fin (ab 0) = true := by decide +kernel
      cases f3 : fin (ab rb)
      · have HA : Hid (stepF ⟨ab x, ab v, ab a, ab b, ab c⟩ (ab t) (ab q) ⟨ab nx, ab nv, ab na, ab nb, ab nc⟩ = ⟨ab x, ab v, ab a, ab b, ab c⟩) := by show _ = _; rw [HST.out, f0, f1, f2, f3]; simp
        go_wp2_with (first | (go_at_call 32; (with_reducible refine (t32 rx _).mono ?_); rintro e w' ⟨rfl, hw⟩; subst w'; rw [f0]) | (go_at_call 32; (with_reducible refine (t32 rv _).mono ?_); rintro e w' ⟨rfl, hw⟩; subst w'; rw [f1]) | (go_at_call 32; (with_reducible refine (t32 0 _).mono ?_); rintro e w' ⟨rfl, hw⟩; subst w'; rw [f2]) | (go_at_call 32; (with_reducible refine (t32 rb _).mono ?_); rintro e w' ⟨rfl, hw⟩; subst w'; rw [f3]))
        exact bodyPost_ret (results_cell_row Try.results33 _ _ _ 27 #[.float .f64 x, .float .f64 v, .float .f64 a, .float .f64 b, .float .f64 c] (0, 0) _ rfl (set5 HL7.out rfl _ _ _ _ _) Try.underlying27 rfl (by kernel_rfl)) rfl ⟨x, v, a, b, c, rfl, by show _ ∧ _; have := HA.out; simp only [Stt.ab]; rw [this]; exact ⟨rfl, rfl, rfl, rfl, rfl⟩, up_set5 HU7.out HG'.out _ _ _ _ _⟩
      have f4 : fin (ab 0) = true := by decide +kernel
      have HA : Hid (stepF ⟨ab x, ab v, ab a, ab b, ab c⟩ (ab t) (ab q) ⟨ab nx, ab nv, ab na, ab nb, ab nc⟩ = ⟨ab rx, ab rv, ab 0, ab rb, ab 0⟩) := by show _ = _; rw [HST.out, f0, f1, f2, f3]; rfl
      go_wp2_with (first | (go_at_call 32; (with_reducible refine (t32 rx _).mono ?_); rintro e w' ⟨rfl, hw⟩; subst w'; rw [f0]) | (go_at_call 32; (with_reducible refine (t32 rv _).mono ?_); rintro e w' ⟨rfl, hw⟩; subst w'; rw [f1]) | (go_at_call 32; (with_reducible refine (t32 0 _).mono ?_); rintro e w' ⟨rfl, hw⟩; subst w'; rw [f2]) | (go_at_call 32; (with_reducible refine (t32 rb _).mono ?_); rintro e w' ⟨rfl, hw⟩; subst w'; rw [f3]) | (go_at_call 32; (with_reducible refine (t32 0 _).mono ?_); rintro e w' ⟨rfl, hw⟩; subst w'; rw [f4]))
      exact bodyPost_ret (results_cell_row Try.results33 _ _ _ 27 #[.float .f64 rx, .float .f64 rv, .float .f64 0, .float .f64 rb, .float .f64 0] (0, 0) _ rfl (set5 HL7.out rfl _ _ _ _ _) Try.underlying27 rfl (by kernel_rfl)) rfl ⟨rx, rv, 0, rb, 0, rfl, by show _ ∧ _; have := HA.out; simp only [Stt.ab]; rw [this]; exact ⟨rfl, rfl, rfl, rfl, rfl⟩, up_set5 HU7.out HG'.out _ _ _ _ _⟩
end Go.Proofs.Ytcgbmcnefolgcaa

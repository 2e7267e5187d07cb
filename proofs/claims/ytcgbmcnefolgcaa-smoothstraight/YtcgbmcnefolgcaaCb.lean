/- A step back, the program's. -/
import Derived.Test.YtcgbmcnefolgcaaLs
import Derived.Test.YtcgbmcnefolgcaaBd
namespace Go.Proofs.Ytcgbmcnefolgcaa
open Go.ChangeShapes Go.WideShapes Go.ChangeAt Go.RowKit Go.Fl Go.Sort
attribute [local go_sem] run_store_float call22 call54 run_neg fold_eq fold_ne fold_lt fold_gt abs_eq

/-- a x + b y. -/
def prodF (a x b y : Option Nat) : Option Nat := bin .add (bin .mul a x) (bin .mul b y)
/-- +0, if it is below 0. -/
def nb0F (x : Option Nat) : Option Nat := if ltF x (ab 0) = true then ab 0 else x
/-- a b - c d. -/
def lessF (a b c d : Option Nat) : Option Nat := bin .sub (bin .mul a b) (bin .mul c d)
theorem good_prod {a x b y : Option Nat} (_ : Good a) (_ : Good x) (_ : Good b) (_ : Good y) : Good (prodF a x b y) := good_bin _ _ _
theorem good_nb0 {x : Option Nat} (h : Good x) : Good (nb0F x) := by unfold nb0F; split; exact good_ab 0; exact h
theorem t59 (a x b y : Nat) (w : World) : Calls Try.prog 59 #[.float .f64 a, .float .f64 x, .float .f64 b, .float .f64 y] w (FR w (prodF (ab a) (ab x) (ab b) (ab y))) := by
  go_enter Try.func59, Try.ntmps59
  go_wp2_with (first
    | ((with_reducible refine upon_fl (op := .mul) (x := a) (y := x) (by simp) ?_); intro r1 n1 k1)
    | ((with_reducible refine upon_fl (op := .mul) (x := b) (y := y) (by simp) ?_); intro r2 n2 k2)
    | ((with_reducible refine upon_fl (op := .add) (by simp) ?_); intro r3 n3 k3))
  go_ret
  exact ⟨r3, _, rfl, rfl, by show _ = _; rw [k3.out, k1.out, k2.out]; rfl⟩
theorem t60 (x : Nat) (w : World) : Calls Try.prog 60 #[.float .f64 x] w (FR w (nb0F (ab x))) := by
  go_enter Try.func60, Try.ntmps60
  go_wp2
  all_goals (go_ret; go_tidy; refine FR.mk0 ?_; simp_all [nb0F])
theorem t55 (x : Nat) (w : World) : Calls Try.prog 55 #[.float .f64 x] w fun e w' => e = .returned (.bool (fin (ab x) && geF (ab x) (ab 0))) ∧ w' = w := by
  go_enter Try.func55, Try.ntmps55
  go_wp2_with (go_at_call 43; refine (t43 _ _).mono ?_; rintro e w' ⟨rfl, rfl⟩)
  all_goals (go_ret; go_tidy; simp_all [geF])
theorem eg59 (args : Array Value) (w : World) : (callFunc 59 args).run Try.prog w = .ok (.enter 59 args) w := enters Try.func59 (by kernel_rfl) (by kernel_rfl) _ _
theorem eg60 (args : Array Value) (w : World) : (callFunc 60 args).run Try.prog w = .ok (.enter 60 args) w := enters Try.func60 (by kernel_rfl) (by kernel_rfl) _ _
/-- The gains: of two numbers of s, by p and D. -/
def gainA (p : S5) (d m1 m2 : Option Nat) : Option Nat := bin .quo (lessF m1 p.c m2 p.b) d
def gainB (p : S5) (d m1 m2 : Option Nat) : Option Nat := bin .quo (lessF m2 p.a m1 p.b) d
set_option maxHeartbeats 1000000 in
theorem t57 {w : World} {g gd d x v a b c : Nat} (hB : BC w g x v a b c) (hd : w.cell? ⟨gd, 0, none⟩ = some (.float .f64 d)) (m1 m2 : Nat) : Calls Try.prog 57 #[.float .f64 m1, .float .f64 m2, .pointer (some ⟨g, 0, none⟩), .pointer (some ⟨gd, 0, none⟩)] w fun e w' => ∃ c1 c2 n, e = .returned (.tuple #[.float .f64 c1, .float .f64 c2]) ∧ w' = w.drewN n ∧ Hid (ab c1 = gainA ⟨ab x, ab v, ab a, ab b, ab c⟩ (ab d) (ab m1) (ab m2) ∧ ab c2 = gainB ⟨ab x, ab v, ab a, ab b, ab c⟩ (ab d) (ab m1) (ab m2)) := by
  obtain ⟨c0, c1, c2, c3, c4⟩ := hB
  go_enter Try.func57, Try.ntmps57
  go_upto_region 2 with (first
    | ((with_reducible refine upon_fl (op := .mul) (x := m1) (y := c) (by simp) ?_); intro r1 n1 k1)
    | ((with_reducible refine upon_fl (op := .mul) (x := m2) (y := b) (by simp) ?_); intro r2 n2 k2)
    | ((with_reducible refine upon_fl (op := .sub) (by simp) ?_); intro r3 n3 k3)
    | ((with_reducible refine upon_fl (op := .quo) (by simp) ?_); intro r4 n4 k4))
  go_wp2_with (first
    | ((with_reducible refine upon_fl (op := .mul) (x := m2) (y := a) (by simp) ?_); intro r5 n5 k5)
    | ((with_reducible refine upon_fl (op := .mul) (x := m1) (y := b) (by simp) ?_); intro r6 n6 k6)
    | ((with_reducible refine upon_fl (op := .sub) (by simp) ?_); intro r7 n7 k7)
    | ((with_reducible refine upon_fl (op := .quo) (by simp) ?_); intro r8 n8 k8))
  go_ret2
  exact ⟨r4, r8, _, rfl, rfl, by show _ = _ ∧ _ = _; rw [k4.out, k3.out, k1.out, k2.out, k8.out, k7.out, k5.out, k6.out]; exact ⟨rfl, rfl⟩⟩
/-- s itself. -/
theorem t56 {w : World} {g : Nat} {s : Stt} (hg : w.heap[g]? = some (.cells #[.float .f64 s.x, .float .f64 s.v, .float .f64 s.a, .float .f64 s.b, .float .f64 s.c] 27)) (n : Stt) : Calls Try.prog 56 #[n.val, .pointer (some ⟨g, 0, none⟩)] w (SR w s.ab) := by
  obtain ⟨x, v, a, b, c⟩ := s
  have hlt : g < w.heap.size := (Array.getElem?_eq_some_iff.1 hg).1
  have hB : BC ((w.alloc (.cells #[.float .f64 n.x, .float .f64 n.v, .float .f64 n.a, .float .f64 n.b, .float .f64 n.c] 27)).alloc (.cells #[.float .f64 0, .float .f64 0, .float .f64 0, .float .f64 0, .float .f64 0] 27)) g x v a b c := by
    have e : BC w g x v a b c := by constructor <;> (unfold World.cell?; simp only [hg]; rfl)
    exact e.up (Up.alloc2 _ _ _)
  obtain ⟨c0, c1, c2, c3, c4⟩ := hB
  go_enter Try.func56, Try.ntmps56
  go_wp2
  exact bodyPost_ret (results_cell_row Try.results56 _ _ _ 27 #[.float .f64 x, .float .f64 v, .float .f64 a, .float .f64 b, .float .f64 c] (0, 0) _ rfl (alloc2_last _ _ _) Try.underlying27 rfl (by kernel_rfl)) rfl ⟨x, v, a, b, c, rfl, ⟨rfl, rfl, rfl, rfl, rfl⟩, Up.alloc2 _ _ _⟩
/-- What is found out behind, brought back to s. -/
def nextF (p s n : S5) (c11 c12 c21 c22 : Option Nat) : S5 :=
  let ex := bin .sub n.x p.x
  let ev := bin .sub n.v p.v
  let exx := bin .sub n.a p.a
  let exv := bin .sub n.b p.b
  let evv := bin .sub n.c p.c
  let t11 := prodF c11 exx c12 exv
  let t12 := prodF c11 exv c12 evv
  let t21 := prodF c21 exx c22 exv
  let t22 := prodF c21 exv c22 evv
  ⟨bin .add s.x (prodF c11 ex c12 ev), bin .add s.v (prodF c21 ex c22 ev), nb0F (bin .add s.a (prodF t11 c11 t12 c12)), bin .add s.b (prodF t11 c21 t12 c22), nb0F (bin .add s.c (prodF t21 c21 t22 c22))⟩
def afterF (p s n : S5) (c11 c12 c21 c22 : Option Nat) : S5 := if mayF (nextF p s n c11 c12 c21 c22) = true then nextF p s n c11 c12 c21 c22 else s
/-- What the step keeps in memory. -/
structure KB (w : World) (gp g1 g2 g3 g4 gs : Nat) (p s : Stt) (c11 c12 c21 c22 : Nat) : Prop where
  p : BC w gp p.x p.v p.a p.b p.c
  k1 : w.cell? ⟨g1, 0, none⟩ = some (.float .f64 c11)
  k2 : w.cell? ⟨g2, 0, none⟩ = some (.float .f64 c12)
  k3 : w.cell? ⟨g3, 0, none⟩ = some (.float .f64 c21)
  k4 : w.cell? ⟨g4, 0, none⟩ = some (.float .f64 c22)
  s : w.heap[gs]? = some (.cells #[.float .f64 s.x, .float .f64 s.v, .float .f64 s.a, .float .f64 s.b, .float .f64 s.c] 27)
theorem BC.of_row {w : World} {g x v a b c : Nat} (hg : w.heap[g]? = some (.cells #[.float .f64 x, .float .f64 v, .float .f64 a, .float .f64 b, .float .f64 c] 27)) : BC w g x v a b c := by constructor <;> (unfold World.cell?; simp only [hg]; rfl)
theorem row_up {w w' : World} {g : Nat} {o : Obj} (hg : w.heap[g]? = some o) (hu : Up w w') : w'.heap[g]? = some o := by
  rw [RowKit.Below.block hu g (Array.getElem?_eq_some_iff.1 hg).1]; exact hg
theorem KB.up {w w' : World} {gp g1 g2 g3 g4 gs : Nat} {p s : Stt} {c11 c12 c21 c22 : Nat} (h : KB w gp g1 g2 g3 g4 gs p s c11 c12 c21 c22) (hu : Up w w') : KB w' gp g1 g2 g3 g4 gs p s c11 c12 c21 c22 :=
  ⟨h.p.up hu, up_cell hu h.k1, up_cell hu h.k2, up_cell hu h.k3, up_cell hu h.k4, row_up h.s hu⟩
theorem five_put {w w9 : World} {gq : Nat} {cs : Array Value} (hZ : w9.heap[gq]? = some (.cells cs 27)) (h5 : cs.size = 5) (hu : Up w w9) (hg : w.heap.size ≤ gq) (x v a b c : Value) :
    (((((w9.setCell ⟨gq, 0, none⟩ x).setCell ⟨gq, 1, none⟩ v).setCell ⟨gq, 2, none⟩ a).setCell ⟨gq, 3, none⟩ b).setCell ⟨gq, 4, none⟩ c).heap[gq]? = some (.cells #[x, v, a, b, c] 27) ∧
    (∀ k, k < gq → (((((w9.setCell ⟨gq, 0, none⟩ x).setCell ⟨gq, 1, none⟩ v).setCell ⟨gq, 2, none⟩ a).setCell ⟨gq, 3, none⟩ b).setCell ⟨gq, 4, none⟩ c).heap[k]? = w9.heap[k]?) ∧
    Up w (((((w9.setCell ⟨gq, 0, none⟩ x).setCell ⟨gq, 1, none⟩ v).setCell ⟨gq, 2, none⟩ a).setCell ⟨gq, 3, none⟩ b).setCell ⟨gq, 4, none⟩ c) := by
  refine ⟨set5 hZ h5 _ _ _ _ _, fun k hk => ?_, up_set5 hu hg _ _ _ _ _⟩
  have h1 := Below.setCell (p := ⟨gq, 0, none⟩) (Below.refl gq w9) (Nat.le_refl gq) x
  have h2 := Below.setCell (p := ⟨gq, 1, none⟩) h1 (Nat.le_refl gq) v
  have h3 := Below.setCell (p := ⟨gq, 2, none⟩) h2 (Nat.le_refl gq) a
  have h4 := Below.setCell (p := ⟨gq, 3, none⟩) h3 (Nat.le_refl gq) b
  have h5 := Below.setCell (p := ⟨gq, 4, none⟩) h4 (Nat.le_refl gq) c
  exact h5.block k hk
set_option maxHeartbeats 8000000 in
set_option maxRecDepth 20000 in
theorem t58 {w : World} {gp g1 g2 g3 g4 gs : Nat} {p s : Stt} {c11 c12 c21 c22 : Nat} (h : KB w gp g1 g2 g3 g4 gs p s c11 c12 c21 c22) (n : Stt) : Calls Try.prog 58 #[n.val, .pointer (some ⟨gp, 0, none⟩), .pointer (some ⟨g1, 0, none⟩), .pointer (some ⟨g2, 0, none⟩), .pointer (some ⟨g3, 0, none⟩), .pointer (some ⟨g4, 0, none⟩), .pointer (some ⟨gs, 0, none⟩)] w (SR w (afterF p.ab s.ab n.ab (ab c11) (ab c12) (ab c21) (ab c22))) := by
  obtain ⟨px, pv, pa, pb, pc⟩ := p
  obtain ⟨sx, sv, sa, sb, sc⟩ := s
  obtain ⟨nx, nv, na, nb, nc⟩ := n
  have HU : Hid (Up w ((w.alloc (.cells #[.float .f64 nx, .float .f64 nv, .float .f64 na, .float .f64 nb, .float .f64 nc] 27)).alloc (.cells #[.float .f64 0, .float .f64 0, .float .f64 0, .float .f64 0, .float .f64 0] 27))) := Up.alloc2 _ _ _
  have h' := h.up HU.out
  obtain ⟨b0, b1, b2, b3, b4⟩ := (BC.new w nx nv na nb nc).up (Up.alloc _ (.cells #[.float .f64 0, .float .f64 0, .float .f64 0, .float .f64 0, .float .f64 0] 27))
  obtain ⟨⟨p0, p1, p2, p3, p4⟩, k1, k2, k3, k4, hs⟩ := h'
  obtain ⟨s0, s1, s2, s3, s4⟩ := BC.of_row hs
  have HLast : Hid (((w.alloc (.cells #[.float .f64 nx, .float .f64 nv, .float .f64 na, .float .f64 nb, .float .f64 nc] 27)).alloc (.cells #[.float .f64 0, .float .f64 0, .float .f64 0, .float .f64 0, .float .f64 0] 27)).heap[w.heap.size + 1]? = some (.cells #[.float .f64 0, .float .f64 0, .float .f64 0, .float .f64 0, .float .f64 0] 27)) := alloc2_last _ _ _
  simp only at p0 p1 p2 p3 p4 s0 s1 s2 s3 s4
  have HS : Hid (_ = _) := hs
  clear h hs
  have hlt : w.heap.size + 1 < ((w.alloc (.cells #[.float .f64 nx, .float .f64 nv, .float .f64 na, .float .f64 nb, .float .f64 nc] 27)).alloc (.cells #[.float .f64 0, .float .f64 0, .float .f64 0, .float .f64 0, .float .f64 0] 27)).heap.size := by simp
  go_enter Try.func58, Try.ntmps58
  go_wp2
  generalize (w.alloc (.cells #[.float .f64 nx, .float .f64 nv, .float .f64 na, .float .f64 nb, .float .f64 nc] 27)).alloc (.cells #[.float .f64 0, .float .f64 0, .float .f64 0, .float .f64 0, .float .f64 0] 27) = W at *
  have HG : Hid (w.heap.size ≤ w.heap.size + 1) := Nat.le_succ _
  generalize w.heap.size + 1 = gr at *
  generalize w.heap.size = gn at b0 b1 b2 b3 b4
  refine wp_region_sp 11 [.val (.pointer (some ⟨gn, 0, none⟩)), .val (.float .f64 nx), .val (.pointer (some ⟨gp, 0, none⟩)), .val (.float .f64 px), .fl (bin .sub (ab nx) (ab px)), .val (.pointer (some ⟨gn, 1, none⟩)), .val (.float .f64 nv), .val (.pointer (some ⟨gp, 1, none⟩)), .val (.float .f64 pv), .fl (bin .sub (ab nv) (ab pv)), .fl (bin .sub (ab nx) (ab px))] (DrW _) (by kernel_rfl) (by decide) rfl (by kernel_rfl) ⟨good_bin _ _ _, good_bin _ _ _, good_bin _ _ _, trivial⟩ (DrW.start _) ?_
  intro fa hF
  obtain ⟨ka4, ka9, ka10, _⟩ := hF
  simp only [List.take_succ_cons, List.take_zero, valsL, FillL, Act.put, List.setIfInBounds_toArray, List.set_cons_succ, List.set_cons_zero, Nat.zero_add, Nat.reduceAdd]
  refine ⟨⟨LoosO.is rfl (fun w hw => by obtain ⟨N, rfl⟩ := hw; go_simp),
    LoosO.is rfl (fun w hw => by obtain ⟨N, rfl⟩ := hw; go_simp),
    LoosO.is rfl (fun w hw => by obtain ⟨N, rfl⟩ := hw; go_simp),
    LoosO.is rfl (fun w hw => by obtain ⟨N, rfl⟩ := hw; go_simp),
    LoosO.st (DrW.on _) rfl rfl (Or.inr (Or.inl rfl)) nx px rfl rfl rfl rfl,
    LoosO.is rfl (fun w hw => by obtain ⟨N, rfl⟩ := hw; go_simp),
    LoosO.is rfl (fun w hw => by obtain ⟨N, rfl⟩ := hw; go_simp),
    LoosO.is rfl (fun w hw => by obtain ⟨N, rfl⟩ := hw; go_simp),
    LoosO.is rfl (fun w hw => by obtain ⟨N, rfl⟩ := hw; go_simp),
    LoosO.st (DrW.on _) rfl rfl (Or.inr (Or.inl rfl)) nv pv rfl rfl rfl rfl,
    LoosO.mv (r := fa 4) rfl (fun w hw => by obtain ⟨N, rfl⟩ := hw; go_simp) ka4.out, trivial⟩, ?_⟩
  rintro w9 ⟨Na, rfl⟩
  simp only [List.drop_succ_cons, List.drop_zero]
  go_wp2
  refine wp_region_sp 17 [.val (.pointer (some ⟨gn, 2, none⟩)), .val (.float .f64 na), .val (.pointer (some ⟨gp, 2, none⟩)), .val (.float .f64 pa), .fl (bin .sub (ab na) (ab pa)), .val (.pointer (some ⟨gn, 3, none⟩)), .val (.float .f64 nb), .val (.pointer (some ⟨gp, 3, none⟩)), .val (.float .f64 pb), .fl (bin .sub (ab nb) (ab pb)), .val (.pointer (some ⟨gn, 4, none⟩)), .val (.float .f64 nc), .val (.pointer (some ⟨gp, 4, none⟩)), .val (.float .f64 pc), .fl (bin .sub (ab nc) (ab pc)), .fl (bin .sub (ab na) (ab pa)), .fl (bin .sub (ab nb) (ab pb))] (DrW _) (by kernel_rfl) (by decide) rfl (by kernel_rfl) ⟨good_bin _ _ _, good_bin _ _ _, good_bin _ _ _, good_bin _ _ _, good_bin _ _ _, trivial⟩ (DrW.start _) ?_
  intro fb hF
  obtain ⟨kb4, kb9, kb14, kb15, kb16, _⟩ := hF
  simp only [List.take_succ_cons, List.take_zero, valsL, FillL, Act.put, List.setIfInBounds_toArray, List.set_cons_succ, List.set_cons_zero, Nat.zero_add, Nat.reduceAdd]
  refine ⟨⟨LoosO.is rfl (fun w hw => by obtain ⟨N, rfl⟩ := hw; go_simp),
    LoosO.is rfl (fun w hw => by obtain ⟨N, rfl⟩ := hw; go_simp),
    LoosO.is rfl (fun w hw => by obtain ⟨N, rfl⟩ := hw; go_simp),
    LoosO.is rfl (fun w hw => by obtain ⟨N, rfl⟩ := hw; go_simp),
    LoosO.st (DrW.on _) rfl rfl (Or.inr (Or.inl rfl)) na pa rfl rfl rfl rfl,
    LoosO.is rfl (fun w hw => by obtain ⟨N, rfl⟩ := hw; go_simp),
    LoosO.is rfl (fun w hw => by obtain ⟨N, rfl⟩ := hw; go_simp),
    LoosO.is rfl (fun w hw => by obtain ⟨N, rfl⟩ := hw; go_simp),
    LoosO.is rfl (fun w hw => by obtain ⟨N, rfl⟩ := hw; go_simp),
    LoosO.st (DrW.on _) rfl rfl (Or.inr (Or.inl rfl)) nb pb rfl rfl rfl rfl,
    LoosO.is rfl (fun w hw => by obtain ⟨N, rfl⟩ := hw; go_simp),
    LoosO.is rfl (fun w hw => by obtain ⟨N, rfl⟩ := hw; go_simp),
    LoosO.is rfl (fun w hw => by obtain ⟨N, rfl⟩ := hw; go_simp),
    LoosO.is rfl (fun w hw => by obtain ⟨N, rfl⟩ := hw; go_simp),
    LoosO.st (DrW.on _) rfl rfl (Or.inr (Or.inl rfl)) nc pc rfl rfl rfl rfl,
    LoosO.mv (r := fb 4) rfl (fun w hw => by obtain ⟨N, rfl⟩ := hw; go_simp) kb4.out,
    LoosO.mv (r := fb 9) rfl (fun w hw => by obtain ⟨N, rfl⟩ := hw; go_simp) kb9.out, trivial⟩, ?_⟩
  rintro w9 ⟨Nb, rfl⟩
  simp only [List.drop_succ_cons, List.drop_zero]
  go_wp2
  refine wp_region_sp 11 [.val (.float .f64 c11), .val (.float .f64 (fb 15)), .val (.float .f64 c12), .val (.float .f64 (fb 16)), .fl (prodF (ab c11) (ab (fb 15)) (ab c12) (ab (fb 16))), .val (.float .f64 c11), .val (.float .f64 (fb 16)), .val (.float .f64 c12), .val (.float .f64 (fb 14)), .fl (prodF (ab c11) (ab (fb 16)) (ab c12) (ab (fb 14))), .fl (prodF (ab c11) (ab (fb 15)) (ab c12) (ab (fb 16)))] (DrW _) (by kernel_rfl) (by decide) rfl (by kernel_rfl) ⟨good_prod (good_ab _) (good_ab _) (good_ab _) (good_ab _), good_prod (good_ab _) (good_ab _) (good_ab _) (good_ab _), good_prod (good_ab _) (good_ab _) (good_ab _) (good_ab _), trivial⟩ (DrW.start _) ?_
  intro fc hF
  obtain ⟨kc4, kc9, kc10, _⟩ := hF
  simp only [List.take_succ_cons, List.take_zero, valsL, FillL, Act.put, List.setIfInBounds_toArray, List.set_cons_succ, List.set_cons_zero, Nat.zero_add, Nat.reduceAdd]
  refine ⟨⟨LoosO.is rfl (fun w hw => by obtain ⟨N, rfl⟩ := hw; go_simp),
    LoosO.is rfl (fun w hw => by obtain ⟨N, rfl⟩ := hw; go_simp),
    LoosO.is rfl (fun w hw => by obtain ⟨N, rfl⟩ := hw; go_simp),
    LoosO.is rfl (fun w hw => by obtain ⟨N, rfl⟩ := hw; go_simp),
    LoosO.call (DrW.on _) rfl rfl #[.float .f64 c11, .float .f64 (fb 15), .float .f64 c12, .float .f64 (fb 16)] (by kernel_rfl) (eg59 _) (fun w => by exact t59 c11 (fb 15) c12 (fb 16) w),
    LoosO.is rfl (fun w hw => by obtain ⟨N, rfl⟩ := hw; go_simp),
    LoosO.is rfl (fun w hw => by obtain ⟨N, rfl⟩ := hw; go_simp),
    LoosO.is rfl (fun w hw => by obtain ⟨N, rfl⟩ := hw; go_simp),
    LoosO.is rfl (fun w hw => by obtain ⟨N, rfl⟩ := hw; go_simp),
    LoosO.call (DrW.on _) rfl rfl #[.float .f64 c11, .float .f64 (fb 16), .float .f64 c12, .float .f64 (fb 14)] (by kernel_rfl) (eg59 _) (fun w => by exact t59 c11 (fb 16) c12 (fb 14) w),
    LoosO.mv (r := fc 4) rfl (fun w hw => by obtain ⟨N, rfl⟩ := hw; go_simp) kc4.out, trivial⟩, ?_⟩
  rintro w9 ⟨Nc, rfl⟩
  simp only [List.drop_succ_cons, List.drop_zero]
  go_wp2
  refine wp_region_sp 11 [.val (.float .f64 c21), .val (.float .f64 (fb 15)), .val (.float .f64 c22), .val (.float .f64 (fb 16)), .fl (prodF (ab c21) (ab (fb 15)) (ab c22) (ab (fb 16))), .val (.float .f64 c21), .val (.float .f64 (fb 16)), .val (.float .f64 c22), .val (.float .f64 (fb 14)), .fl (prodF (ab c21) (ab (fb 16)) (ab c22) (ab (fb 14))), .fl (prodF (ab c21) (ab (fb 15)) (ab c22) (ab (fb 16)))] (DrW _) (by kernel_rfl) (by decide) rfl (by kernel_rfl) ⟨good_prod (good_ab _) (good_ab _) (good_ab _) (good_ab _), good_prod (good_ab _) (good_ab _) (good_ab _) (good_ab _), good_prod (good_ab _) (good_ab _) (good_ab _) (good_ab _), trivial⟩ (DrW.start _) ?_
  intro fd hF
  obtain ⟨kd4, kd9, kd10, _⟩ := hF
  simp only [List.take_succ_cons, List.take_zero, valsL, FillL, Act.put, List.setIfInBounds_toArray, List.set_cons_succ, List.set_cons_zero, Nat.zero_add, Nat.reduceAdd]
  refine ⟨⟨LoosO.is rfl (fun w hw => by obtain ⟨N, rfl⟩ := hw; go_simp),
    LoosO.is rfl (fun w hw => by obtain ⟨N, rfl⟩ := hw; go_simp),
    LoosO.is rfl (fun w hw => by obtain ⟨N, rfl⟩ := hw; go_simp),
    LoosO.is rfl (fun w hw => by obtain ⟨N, rfl⟩ := hw; go_simp),
    LoosO.call (DrW.on _) rfl rfl #[.float .f64 c21, .float .f64 (fb 15), .float .f64 c22, .float .f64 (fb 16)] (by kernel_rfl) (eg59 _) (fun w => by exact t59 c21 (fb 15) c22 (fb 16) w),
    LoosO.is rfl (fun w hw => by obtain ⟨N, rfl⟩ := hw; go_simp),
    LoosO.is rfl (fun w hw => by obtain ⟨N, rfl⟩ := hw; go_simp),
    LoosO.is rfl (fun w hw => by obtain ⟨N, rfl⟩ := hw; go_simp),
    LoosO.is rfl (fun w hw => by obtain ⟨N, rfl⟩ := hw; go_simp),
    LoosO.call (DrW.on _) rfl rfl #[.float .f64 c21, .float .f64 (fb 16), .float .f64 c22, .float .f64 (fb 14)] (by kernel_rfl) (eg59 _) (fun w => by exact t59 c21 (fb 16) c22 (fb 14) w),
    LoosO.mv (r := fd 4) rfl (fun w hw => by obtain ⟨N, rfl⟩ := hw; go_simp) kd4.out, trivial⟩, ?_⟩
  rintro w9 ⟨Nd, rfl⟩
  simp only [List.drop_succ_cons, List.drop_zero]
  go_wp2
  have b0 : (((((((W.drew.drewN Na).drew).drewN Nb).drew).drewN Nc).drew).drewN Nd).cell? ⟨gn, 0, none⟩ = some (.float .f64 nx) := b0
  have b1 : (((((((W.drew.drewN Na).drew).drewN Nb).drew).drewN Nc).drew).drewN Nd).cell? ⟨gn, 1, none⟩ = some (.float .f64 nv) := b1
  have b2 : (((((((W.drew.drewN Na).drew).drewN Nb).drew).drewN Nc).drew).drewN Nd).cell? ⟨gn, 2, none⟩ = some (.float .f64 na) := b2
  have b3 : (((((((W.drew.drewN Na).drew).drewN Nb).drew).drewN Nc).drew).drewN Nd).cell? ⟨gn, 3, none⟩ = some (.float .f64 nb) := b3
  have b4 : (((((((W.drew.drewN Na).drew).drewN Nb).drew).drewN Nc).drew).drewN Nd).cell? ⟨gn, 4, none⟩ = some (.float .f64 nc) := b4
  have p0 : (((((((W.drew.drewN Na).drew).drewN Nb).drew).drewN Nc).drew).drewN Nd).cell? ⟨gp, 0, none⟩ = some (.float .f64 px) := p0
  have p1 : (((((((W.drew.drewN Na).drew).drewN Nb).drew).drewN Nc).drew).drewN Nd).cell? ⟨gp, 1, none⟩ = some (.float .f64 pv) := p1
  have p2 : (((((((W.drew.drewN Na).drew).drewN Nb).drew).drewN Nc).drew).drewN Nd).cell? ⟨gp, 2, none⟩ = some (.float .f64 pa) := p2
  have p3 : (((((((W.drew.drewN Na).drew).drewN Nb).drew).drewN Nc).drew).drewN Nd).cell? ⟨gp, 3, none⟩ = some (.float .f64 pb) := p3
  have p4 : (((((((W.drew.drewN Na).drew).drewN Nb).drew).drewN Nc).drew).drewN Nd).cell? ⟨gp, 4, none⟩ = some (.float .f64 pc) := p4
  have s0 : (((((((W.drew.drewN Na).drew).drewN Nb).drew).drewN Nc).drew).drewN Nd).cell? ⟨gs, 0, none⟩ = some (.float .f64 sx) := s0
  have s1 : (((((((W.drew.drewN Na).drew).drewN Nb).drew).drewN Nc).drew).drewN Nd).cell? ⟨gs, 1, none⟩ = some (.float .f64 sv) := s1
  have s2 : (((((((W.drew.drewN Na).drew).drewN Nb).drew).drewN Nc).drew).drewN Nd).cell? ⟨gs, 2, none⟩ = some (.float .f64 sa) := s2
  have s3 : (((((((W.drew.drewN Na).drew).drewN Nb).drew).drewN Nc).drew).drewN Nd).cell? ⟨gs, 3, none⟩ = some (.float .f64 sb) := s3
  have s4 : (((((((W.drew.drewN Na).drew).drewN Nb).drew).drewN Nc).drew).drewN Nd).cell? ⟨gs, 4, none⟩ = some (.float .f64 sc) := s4
  have k1 : (((((((W.drew.drewN Na).drew).drewN Nb).drew).drewN Nc).drew).drewN Nd).cell? ⟨g1, 0, none⟩ = some (.float .f64 c11) := k1
  have k2 : (((((((W.drew.drewN Na).drew).drewN Nb).drew).drewN Nc).drew).drewN Nd).cell? ⟨g2, 0, none⟩ = some (.float .f64 c12) := k2
  have k3 : (((((((W.drew.drewN Na).drew).drewN Nb).drew).drewN Nc).drew).drewN Nd).cell? ⟨g3, 0, none⟩ = some (.float .f64 c21) := k3
  have k4 : (((((((W.drew.drewN Na).drew).drewN Nb).drew).drewN Nc).drew).drewN Nd).cell? ⟨g4, 0, none⟩ = some (.float .f64 c22) := k4
  have HLast : Hid ((((((((W.drew.drewN Na).drew).drewN Nb).drew).drewN Nc).drew).drewN Nd).heap[gr]? = some (.cells #[.float .f64 0, .float .f64 0, .float .f64 0, .float .f64 0, .float .f64 0] 27)) := HLast
  have HU : Hid (Up w (((((((W.drew.drewN Na).drew).drewN Nb).drew).drewN Nc).drew).drewN Nd)) := HU.out.trans (((((((Up.drew _).trans (Up.drewN _ _)).trans (Up.drew _)).trans (Up.drewN _ _)).trans (Up.drew _)).trans (Up.drewN _ _)).trans ((Up.drew _).trans (Up.drewN _ _)))
  have HS5 : Hid ((((((((W.drew.drewN Na).drew).drewN Nb).drew).drewN Nc).drew).drewN Nd).heap[gs]? = some (.cells #[.float .f64 sx, .float .f64 sv, .float .f64 sa, .float .f64 sb, .float .f64 sc] 27)) := HS
  generalize (((((((W.drew.drewN Na).drew).drewN Nb).drew).drewN Nc).drew).drewN Nd) = W5 at *
  refine wp_region_sq1 44 43 ((Sq.val (.pointer (some ⟨gs, 0, none⟩))) :: (Sq.val (.float .f64 sx)) :: (Sq.val (.float .f64 c11)) :: (Sq.val (.float .f64 (fa 10))) :: (Sq.val (.float .f64 c12)) :: (Sq.val (.float .f64 (fa 9))) :: (Sq.fl (prodF (ab c11) (ab (fa 10)) (ab c12) (ab (fa 9)))) :: (Sq.fl (bin .add (ab sx) (prodF (ab c11) (ab (fa 10)) (ab c12) (ab (fa 9))))) :: (Sq.val (.pointer (some ⟨gs, 1, none⟩))) :: (Sq.val (.float .f64 sv)) :: (Sq.val (.float .f64 c21)) :: (Sq.val (.float .f64 (fa 10))) :: (Sq.val (.float .f64 c22)) :: (Sq.val (.float .f64 (fa 9))) :: (Sq.fl (prodF (ab c21) (ab (fa 10)) (ab c22) (ab (fa 9)))) :: (Sq.fl (bin .add (ab sv) (prodF (ab c21) (ab (fa 10)) (ab c22) (ab (fa 9))))) :: (Sq.val (.pointer (some ⟨gs, 2, none⟩))) :: (Sq.val (.float .f64 sa)) :: (Sq.val (.float .f64 (fc 10))) :: (Sq.val (.float .f64 c11)) :: (Sq.val (.float .f64 (fc 9))) :: (Sq.val (.float .f64 c12)) :: (Sq.fl (prodF (ab (fc 10)) (ab c11) (ab (fc 9)) (ab c12))) :: (Sq.fl (bin .add (ab sa) (prodF (ab (fc 10)) (ab c11) (ab (fc 9)) (ab c12)))) :: (Sq.fl (nb0F (bin .add (ab sa) (prodF (ab (fc 10)) (ab c11) (ab (fc 9)) (ab c12))))) :: (Sq.val (.pointer (some ⟨gs, 3, none⟩))) :: (Sq.val (.float .f64 sb)) :: (Sq.val (.float .f64 (fc 10))) :: (Sq.val (.float .f64 c21)) :: (Sq.val (.float .f64 (fc 9))) :: (Sq.val (.float .f64 c22)) :: (Sq.fl (prodF (ab (fc 10)) (ab c21) (ab (fc 9)) (ab c22))) :: (Sq.fl (bin .add (ab sb) (prodF (ab (fc 10)) (ab c21) (ab (fc 9)) (ab c22)))) :: (Sq.val (.pointer (some ⟨gs, 4, none⟩))) :: (Sq.val (.float .f64 sc)) :: (Sq.val (.float .f64 (fd 10))) :: (Sq.val (.float .f64 c21)) :: (Sq.val (.float .f64 (fd 9))) :: (Sq.val (.float .f64 c22)) :: (Sq.fl (prodF (ab (fd 10)) (ab c21) (ab (fd 9)) (ab c22))) :: (Sq.fl (bin .add (ab sc) (prodF (ab (fd 10)) (ab c21) (ab (fd 9)) (ab c22)))) :: (Sq.fl (nb0F (bin .add (ab sc) (prodF (ab (fd 10)) (ab c21) (ab (fd 9)) (ab c22))))) :: (Sq.st ⟨bin .add (ab sx) (prodF (ab c11) (ab (fa 10)) (ab c12) (ab (fa 9))), bin .add (ab sv) (prodF (ab c21) (ab (fa 10)) (ab c22) (ab (fa 9))), nb0F (bin .add (ab sa) (prodF (ab (fc 10)) (ab c11) (ab (fc 9)) (ab c12))), bin .add (ab sb) (prodF (ab (fc 10)) (ab c21) (ab (fc 9)) (ab c22)), nb0F (bin .add (ab sc) (prodF (ab (fd 10)) (ab c21) (ab (fd 9)) (ab c22)))⟩) :: (Sq.val (.pointer (some ⟨(W5).heap.size, 0, none⟩))) :: []) (MkC (W5) (.cells #[.float .f64 0, .float .f64 0, .float .f64 0, .float .f64 0, .float .f64 0] 27)) (by decide) (by kernel_rfl) (by decide) rfl (by kernel_rfl) ⟨good_val _, good_val _, good_val _, good_val _, good_val _, good_val _, good_fl (good_prod (good_ab _) (good_ab _) (good_ab _) (good_ab _)), good_fl (good_bin _ _ _), good_val _, good_val _, good_val _, good_val _, good_val _, good_val _, good_fl (good_prod (good_ab _) (good_ab _) (good_ab _) (good_ab _)), good_fl (good_bin _ _ _), good_val _, good_val _, good_val _, good_val _, good_val _, good_val _, good_fl (good_prod (good_ab _) (good_ab _) (good_ab _) (good_ab _)), good_fl (good_bin _ _ _), good_fl (good_nb0 (good_bin _ _ _)), good_val _, good_val _, good_val _, good_val _, good_val _, good_val _, good_fl (good_prod (good_ab _) (good_ab _) (good_ab _) (good_ab _)), good_fl (good_bin _ _ _), good_val _, good_val _, good_val _, good_val _, good_val _, good_val _, good_fl (good_prod (good_ab _) (good_ab _) (good_ab _) (good_ab _)), good_fl (good_bin _ _ _), good_fl (good_nb0 (good_bin _ _ _)), good_st (good_bin _ _ _) (good_bin _ _ _) (good_nb0 (good_bin _ _ _)) (good_bin _ _ _) (good_nb0 (good_bin _ _ _)), good_val _, trivial⟩ (MkC.start _ _) ?_
  intro fg hF
  obtain ⟨_, _, _, _, _, _, kg6, kg7, _, _, _, _, _, _, kg14, kg15, _, _, _, _, _, _, kg22, kg23, kg24, _, _, _, _, _, _, kg31, kg32, _, _, _, _, _, _, kg39, kg40, kg41, kg42, _, _⟩ := hF
  simp only [List.take_succ_cons, List.take_zero, valsQ, FillL, Act.put, List.setIfInBounds_toArray, List.set_cons_succ, List.set_cons_zero, Nat.zero_add, Nat.reduceAdd]
  refine ⟨⟨fun b => SqO.is rfl (fun w hw => by go_simp),
    fun b => SqO.is rfl (fun w hw => by have z9 := up_cell hw.1 s0; go_simp),
    fun b => SqO.is rfl (fun w hw => by have z9 := up_cell hw.1 k1; go_simp),
    fun b => SqO.is rfl (fun w hw => by go_simp),
    fun b => SqO.is rfl (fun w hw => by have z9 := up_cell hw.1 k2; go_simp),
    fun b => SqO.is rfl (fun w hw => by go_simp),
    fun b => SqO.of (LoosO.call (MkC.on _ _ b) rfl rfl #[.float .f64 c11, .float .f64 (fa 10), .float .f64 c12, .float .f64 (fa 9)] (by kernel_rfl) (eg59 _) (fun w => by exact t59 c11 (fa 10) c12 (fa 9) w)),
    fun b => SqO.of (LoosO.st (MkC.on _ _ b) rfl rfl (Or.inl rfl) sx (fg 6).x rfl rfl rfl kg6.out),
    fun b => SqO.is rfl (fun w hw => by go_simp),
    fun b => SqO.is rfl (fun w hw => by have z9 := up_cell hw.1 s1; go_simp),
    fun b => SqO.is rfl (fun w hw => by have z9 := up_cell hw.1 k3; go_simp),
    fun b => SqO.is rfl (fun w hw => by go_simp),
    fun b => SqO.is rfl (fun w hw => by have z9 := up_cell hw.1 k4; go_simp),
    fun b => SqO.is rfl (fun w hw => by go_simp),
    fun b => SqO.of (LoosO.call (MkC.on _ _ b) rfl rfl #[.float .f64 c21, .float .f64 (fa 10), .float .f64 c22, .float .f64 (fa 9)] (by kernel_rfl) (eg59 _) (fun w => by exact t59 c21 (fa 10) c22 (fa 9) w)),
    fun b => SqO.of (LoosO.st (MkC.on _ _ b) rfl rfl (Or.inl rfl) sv (fg 14).x rfl rfl rfl kg14.out),
    fun b => SqO.is rfl (fun w hw => by go_simp),
    fun b => SqO.is rfl (fun w hw => by have z9 := up_cell hw.1 s2; go_simp),
    fun b => SqO.is rfl (fun w hw => by go_simp),
    fun b => SqO.is rfl (fun w hw => by have z9 := up_cell hw.1 k1; go_simp),
    fun b => SqO.is rfl (fun w hw => by go_simp),
    fun b => SqO.is rfl (fun w hw => by have z9 := up_cell hw.1 k2; go_simp),
    fun b => SqO.of (LoosO.call (MkC.on _ _ b) rfl rfl #[.float .f64 (fc 10), .float .f64 c11, .float .f64 (fc 9), .float .f64 c12] (by kernel_rfl) (eg59 _) (fun w => by exact t59 (fc 10) c11 (fc 9) c12 w)),
    fun b => SqO.of (LoosO.st (MkC.on _ _ b) rfl rfl (Or.inl rfl) sa (fg 22).x rfl rfl rfl kg22.out),
    fun b => SqO.of (LoosO.call (MkC.on _ _ b) rfl rfl #[.float .f64 (fg 23).x] (by kernel_rfl) (eg60 _) (fun w => by rw [← kg23.out]; exact t60 (fg 23).x w)),
    fun b => SqO.is rfl (fun w hw => by go_simp),
    fun b => SqO.is rfl (fun w hw => by have z9 := up_cell hw.1 s3; go_simp),
    fun b => SqO.is rfl (fun w hw => by go_simp),
    fun b => SqO.is rfl (fun w hw => by have z9 := up_cell hw.1 k3; go_simp),
    fun b => SqO.is rfl (fun w hw => by go_simp),
    fun b => SqO.is rfl (fun w hw => by have z9 := up_cell hw.1 k4; go_simp),
    fun b => SqO.of (LoosO.call (MkC.on _ _ b) rfl rfl #[.float .f64 (fc 10), .float .f64 c21, .float .f64 (fc 9), .float .f64 c22] (by kernel_rfl) (eg59 _) (fun w => by exact t59 (fc 10) c21 (fc 9) c22 w)),
    fun b => SqO.of (LoosO.st (MkC.on _ _ b) rfl rfl (Or.inl rfl) sb (fg 31).x rfl rfl rfl kg31.out),
    fun b => SqO.is rfl (fun w hw => by go_simp),
    fun b => SqO.is rfl (fun w hw => by have z9 := up_cell hw.1 s4; go_simp),
    fun b => SqO.is rfl (fun w hw => by go_simp),
    fun b => SqO.is rfl (fun w hw => by have z9 := up_cell hw.1 k3; go_simp),
    fun b => SqO.is rfl (fun w hw => by go_simp),
    fun b => SqO.is rfl (fun w hw => by have z9 := up_cell hw.1 k4; go_simp),
    fun b => SqO.of (LoosO.call (MkC.on _ _ b) rfl rfl #[.float .f64 (fd 10), .float .f64 c21, .float .f64 (fd 9), .float .f64 c22] (by kernel_rfl) (eg59 _) (fun w => by exact t59 (fd 10) c21 (fd 9) c22 w)),
    fun b => SqO.of (LoosO.st (MkC.on _ _ b) rfl rfl (Or.inl rfl) sc (fg 39).x rfl rfl rfl kg39.out),
    fun b => SqO.of (LoosO.call (MkC.on _ _ b) rfl rfl #[.float .f64 (fg 40).x] (by kernel_rfl) (eg60 _) (fun w => by rw [← kg40.out]; exact t60 (fg 40).x w)),
    fun b => SqO.bd (s := ⟨(fg 7).x, (fg 15).x, (fg 24).x, (fg 32).x, (fg 41).x⟩) rfl (fun w hw => by go_simp) (ab5 kg7.out kg15.out kg24.out kg32.out kg41.out),
    MkC.mk rfl (fun w => by go_simp), trivial⟩, ?_⟩
  rintro w9 ⟨U9, Z9⟩
  simp only [List.drop_succ_cons, List.drop_zero]
  have KR : Hid ((fg 42).ab = nextF ⟨ab px, ab pv, ab pa, ab pb, ab pc⟩ ⟨ab sx, ab sv, ab sa, ab sb, ab sc⟩ ⟨ab nx, ab nv, ab na, ab nb, ab nc⟩ (ab c11) (ab c12) (ab c21) (ab c22)) := by
    have e1 : ab (fa 10) = bin .sub (ab nx) (ab px) := ka10.out
    have e2 : ab (fa 9) = bin .sub (ab nv) (ab pv) := ka9.out
    have e3 : ab (fb 15) = bin .sub (ab na) (ab pa) := kb15.out
    have e4 : ab (fb 16) = bin .sub (ab nb) (ab pb) := kb16.out
    have e5 : ab (fb 14) = bin .sub (ab nc) (ab pc) := kb14.out
    have e6 : ab (fc 10) = prodF (ab c11) (ab (fb 15)) (ab c12) (ab (fb 16)) := kc10.out
    have e7 : ab (fc 9) = prodF (ab c11) (ab (fb 16)) (ab c12) (ab (fb 14)) := kc9.out
    have e8 : ab (fd 10) = prodF (ab c21) (ab (fb 15)) (ab c22) (ab (fb 16)) := kd10.out
    have e9 : ab (fd 9) = prodF (ab c21) (ab (fb 16)) (ab c22) (ab (fb 14)) := kd9.out
    rw [e3, e4] at e6 e8
    rw [e4, e5] at e7 e9
    show (fg 42).ab = _
    refine kg42.out.trans ?_
    rw [e1, e2, e6, e7, e8, e9]
    rfl
  clear kg6 kg7 kg14 kg15 kg22 kg23 kg24 kg31 kg32 kg39 kg40 kg41 kg42 ka4 ka9 ka10 kb4 kb9 kb14 kb15 kb16 kc4 kc9 kc10 kd4 kd9 kd10
  generalize fg 42 = R at *
  obtain ⟨rx, rv, ra, rb, rc⟩ := R
  have Z9' : w9.heap[W5.heap.size]? = some (.cells #[.float .f64 0, .float .f64 0, .float .f64 0, .float .f64 0, .float .f64 0] 27) := Z9
  have hgr : gr < W5.heap.size := (Array.getElem?_eq_some_iff.1 HLast.out).1
  have hgs : gs < W5.heap.size := (Array.getElem?_eq_some_iff.1 HS5.out).1
  have L9 : Hid (w9.heap[gr]? = some (.cells #[.float .f64 0, .float .f64 0, .float .f64 0, .float .f64 0, .float .f64 0] 27)) := row_up HLast.out U9
  have S9 : Hid (w9.heap[gs]? = some (.cells #[.float .f64 sx, .float .f64 sv, .float .f64 sa, .float .f64 sb, .float .f64 sc] 27)) := row_up HS5.out U9
  have U10 : Hid (Up w w9) := HU.out.trans U9
  clear Z9 U9
  obtain ⟨z0, z1, z2, z3, z4⟩ := BC.of_row Z9'
  have fz : ∀ i, w9.frozen? ⟨W5.heap.size, i, none⟩ = false := fun i => by unfold World.frozen?; simp only [Z9']; rfl
  have fz0 := fz 0
  have fz1 := fz 1
  have fz2 := fz 2
  have fz3 := fz 3
  have fz4 := fz 4
  have Z10 : Hid _ := Z9'
  clear fz Z9'
  generalize W5.heap.size = gq at *
  go_wp2_with fail
  have hgq : w.heap.size ≤ gq := Nat.le_of_lt (Nat.lt_of_le_of_lt HG.out hgr)
  obtain ⟨RQ, BQ, U11⟩ := five_put Z10.out rfl U10.out hgq (.float .f64 rx) (.float .f64 rv) (.float .f64 ra) (.float .f64 rb) (.float .f64 rc)
  have L11 := (BQ gr hgr).trans L9.out
  have S11 := (BQ gs hgs).trans S9.out
  clear L9 S9 U10 Z10 BQ z0 z1 z2 z3 z4 fz0 fz1 fz2 fz3 fz4
  generalize ((((w9.setCell ⟨gq, 0, none⟩ (.float .f64 rx)).setCell ⟨gq, 1, none⟩ (.float .f64 rv)).setCell ⟨gq, 2, none⟩ (.float .f64 ra)).setCell ⟨gq, 3, none⟩ (.float .f64 rb)).setCell ⟨gq, 4, none⟩ (.float .f64 rc) = W6 at *
  refine (t23 rx rv ra rb rc W6).mono ?_
  rintro e w7 ⟨rfl, U7⟩
  have RQ7 := row_up RQ U7.out
  have L7 := row_up L11 U7.out
  have S7 := row_up S11 U7.out
  have U8 : Hid (Up w w7) := U11.trans U7.out
  clear RQ L11 S11 U11 U7
  have fz : ∀ i, w7.frozen? ⟨gr, i, none⟩ = false := fun i => by unfold World.frozen?; simp only [L7]; rfl
  have fz0 := fz 0
  have fz1 := fz 1
  have fz2 := fz 2
  have fz3 := fz 3
  have fz4 := fz 4
  clear fz
  have HL7 : Hid _ := L7
  obtain ⟨l0, l1, l2, l3, l4⟩ := BC.of_row L7
  obtain ⟨q0, q1, q2, q3, q4⟩ := BC.of_row RQ7
  obtain ⟨y0, y1, y2, y3, y4⟩ := BC.of_row S7
  have hK := KR.out
  have hM : mayF ⟨ab rx, ab rv, ab ra, ab rb, ab rc⟩ = mayF (nextF ⟨ab px, ab pv, ab pa, ab pb, ab pc⟩ ⟨ab sx, ab sv, ab sa, ab sb, ab sc⟩ ⟨ab nx, ab nv, ab na, ab nb, ab nc⟩ (ab c11) (ab c12) (ab c21) (ab c22)) := by rw [← hK]; rfl
  clear RQ7 L7 S7 hK
  cases hb : mayF ⟨ab rx, ab rv, ab ra, ab rb, ab rc⟩
  · rw [hb] at hM
    have HA : Hid (afterF ⟨ab px, ab pv, ab pa, ab pb, ab pc⟩ ⟨ab sx, ab sv, ab sa, ab sb, ab sc⟩ ⟨ab nx, ab nv, ab na, ab nb, ab nc⟩ (ab c11) (ab c12) (ab c21) (ab c22) = ⟨ab sx, ab sv, ab sa, ab sb, ab sc⟩) := by show _ = _; unfold afterF; rw [← hM]; rfl
    clear hM
    go_wp2
    exact bodyPost_ret (results_cell_row Try.results58 _ _ _ 27 #[.float .f64 sx, .float .f64 sv, .float .f64 sa, .float .f64 sb, .float .f64 sc] (0, 0) _ rfl (set5 HL7.out rfl _ _ _ _ _) Try.underlying27 rfl (by kernel_rfl)) rfl ⟨sx, sv, sa, sb, sc, rfl, by show _ ∧ _; have := HA.out; simp only [Stt.ab]; rw [this]; exact ⟨rfl, rfl, rfl, rfl, rfl⟩, up_set5 U8.out HG.out _ _ _ _ _⟩
  · rw [hb] at hM
    have HA : Hid (afterF ⟨ab px, ab pv, ab pa, ab pb, ab pc⟩ ⟨ab sx, ab sv, ab sa, ab sb, ab sc⟩ ⟨ab nx, ab nv, ab na, ab nb, ab nc⟩ (ab c11) (ab c12) (ab c21) (ab c22) = ⟨ab rx, ab rv, ab ra, ab rb, ab rc⟩) := by show _ = _; unfold afterF; rw [← hM, ← KR.out]; rfl
    clear hM
    go_wp2
    exact bodyPost_ret (results_cell_row Try.results58 _ _ _ 27 #[.float .f64 rx, .float .f64 rv, .float .f64 ra, .float .f64 rb, .float .f64 rc] (0, 0) _ rfl (set5 HL7.out rfl _ _ _ _ _) Try.underlying27 rfl (by kernel_rfl)) rfl ⟨rx, rv, ra, rb, rc, rfl, by show _ ∧ _; have := HA.out; simp only [Stt.ab]; rw [this]; exact ⟨rfl, rfl, rfl, rfl, rfl⟩, up_set5 U8.out HG.out _ _ _ _ _⟩
end Go.Proofs.Ytcgbmcnefolgcaa

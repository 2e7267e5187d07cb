/- The law StateSteps. -/
import Derived.Test.YtdolfkgnehiecaaBa
import Derived.Test.YtdolfkgnehiecaaLq
import Derived.Deep.DeepCutAuto
namespace Go.Proofs.Ytdolfkgnehiecaa
open Go.ChangeShapes Go.WideShapes Go.ChangeAt Go.RowKit Go.Fl Ieee
attribute [local go_sem] run_store_float call28 call35 run_neg fold_eq fold_ne fold_lt fold_gt abs_eq

theorem eg9 (args : Array Value) (w : World) : (callFunc 9 args).run Try.prog w = .ok (.enter 9 args) w := enters Try.func9 (by kernel_rfl) (by kernel_rfl) _ _
theorem eg10 (args : Array Value) (w : World) : (callFunc 10 args).run Try.prog w = .ok (.enter 10 args) w := enters Try.func10 (by kernel_rfl) (by kernel_rfl) _ _
theorem eg11 (args : Array Value) (w : World) : (callFunc 11 args).run Try.prog w = .ok (.enter 11 args) w := enters Try.func11 (by kernel_rfl) (by kernel_rfl) _ _
theorem eg12 (args : Array Value) (w : World) : (callFunc 12 args).run Try.prog w = .ok (.enter 12 args) w := enters Try.func12 (by kernel_rfl) (by kernel_rfl) _ _
theorem eg13 (args : Array Value) (w : World) : (callFunc 13 args).run Try.prog w = .ok (.enter 13 args) w := enters Try.func13 (by kernel_rfl) (by kernel_rfl) _ _
theorem eg19 (args : Array Value) (w : World) : (callFunc 19 args).run Try.prog w = .ok (.enter 19 args) w := enters Try.func19 (by kernel_rfl) (by kernel_rfl) _ _
/-- Two states beside each other, and the step that is under way. -/
structure PQ (w W : World) (g1 g2 h : Nat) (A B X : Array Value) : Prop where
  up : Up w W
  r1 : W.heap[g1]? = some (.cells A 24)
  r2 : W.heap[g2]? = some (.cells B 24)
  r3 : W.heap[h]? = some (.cells X 27)
theorem row_up {W W' : World} {g : Nat} {o : Obj} (h : W.heap[g]? = some o) (u : Up W W') : W'.heap[g]? = some o := (RowKit.Below.block u g (Array.getElem?_eq_some_iff.1 h).1).trans h
theorem PQ.grow {w W W' : World} {g1 g2 h : Nat} {A B X : Array Value} (k : PQ w W g1 g2 h A B X) (u : Up W W') : PQ w W' g1 g2 h A B X := ⟨k.up.trans u, row_up k.r1 u, row_up k.r2 u, row_up k.r3 u⟩
theorem other5 {W : World} {g j : Nat} (hne : j ≠ g) (x0 x1 x2 x3 x4 : Value) :
    (((((W.setCell ⟨g, 0, none⟩ x0).setCell ⟨g, 1, none⟩ x1).setCell ⟨g, 2, none⟩ x2).setCell ⟨g, 3, none⟩ x3).setCell ⟨g, 4, none⟩ x4).heap[j]? = W.heap[j]? := by
  rw [heap_setCell_other _ _ _ _ hne, heap_setCell_other _ _ _ _ hne, heap_setCell_other _ _ _ _ hne, heap_setCell_other _ _ _ _ hne, heap_setCell_other _ _ _ _ hne]
theorem PQ.put1 {w W : World} {g1 g2 h : Nat} {A B X : Array Value} (k : PQ w W g1 g2 h A B X) (hs : A.size = 5) (hl : w.heap.size ≤ g1) (n2 : g2 ≠ g1) (n3 : h ≠ g1) (x0 x1 x2 x3 x4 : Value) : PQ w (((((W.setCell ⟨g1, 0, none⟩ x0).setCell ⟨g1, 1, none⟩ x1).setCell ⟨g1, 2, none⟩ x2).setCell ⟨g1, 3, none⟩ x3).setCell ⟨g1, 4, none⟩ x4) g1 g2 h #[x0, x1, x2, x3, x4] B X :=
  ⟨up_set5 k.up hl _ _ _ _ _, set5 k.r1 hs _ _ _ _ _, (other5 n2 _ _ _ _ _).trans k.r2, (other5 n3 _ _ _ _ _).trans k.r3⟩
theorem PQ.put2 {w W : World} {g1 g2 h : Nat} {A B X : Array Value} (k : PQ w W g1 g2 h A B X) (hs : B.size = 5) (hl : w.heap.size ≤ g2) (n1 : g1 ≠ g2) (n3 : h ≠ g2) (x0 x1 x2 x3 x4 : Value) : PQ w (((((W.setCell ⟨g2, 0, none⟩ x0).setCell ⟨g2, 1, none⟩ x1).setCell ⟨g2, 2, none⟩ x2).setCell ⟨g2, 3, none⟩ x3).setCell ⟨g2, 4, none⟩ x4) g1 g2 h A #[x0, x1, x2, x3, x4] X :=
  ⟨up_set5 k.up hl _ _ _ _ _, (other5 n1 _ _ _ _ _).trans k.r1, set5 k.r2 hs _ _ _ _ _, (other5 n3 _ _ _ _ _).trans k.r3⟩
theorem good_far (s : S5) (p q : Option Nat) : Good (farF s p q) := by
  unfold farF
  split
  · exact good_bin _ _ _
  · exact good_ab _
theorem bc_row {W : World} {g x v a b c : Nat} (h : W.heap[g]? = some (.cells #[.float .f64 x, .float .f64 v, .float .f64 a, .float .f64 b, .float .f64 c] 24)) : BC W g x v a b c := by
  constructor <;> (unfold World.cell?; simp only [h]; rfl)
theorem fz_row {W : World} {g : Nat} {cs : Array Value} (h : W.heap[g]? = some (.cells cs 24)) : W.frozen? ⟨g, 0, none⟩ = false ∧ W.frozen? ⟨g, 1, none⟩ = false ∧ W.frozen? ⟨g, 2, none⟩ = false ∧ W.frozen? ⟨g, 3, none⟩ = false ∧ W.frozen? ⟨g, 4, none⟩ = false := by
  refine ⟨?_, ?_, ?_, ?_, ?_⟩ <;> (unfold World.frozen?; simp [h])
theorem x_row {W : World} {g : Nat} {κ : Int} {p q : Nat} (h : W.heap[g]? = some (.cells #[.int .i64 κ, .float .f64 p, .float .f64 q] 27)) : W.cell? ⟨g, 0, none⟩ = some (.int .i64 κ) ∧ W.cell? ⟨g, 1, none⟩ = some (.float .f64 p) ∧ W.cell? ⟨g, 2, none⟩ = some (.float .f64 q) := by
  refine ⟨?_, ?_, ?_⟩ <;> (unfold World.cell?; simp only [h]; rfl)
theorem t18e {x v a b c x' v' a' b' c' : Nat} (h : (⟨ab x, ab v, ab a, ab b, ab c⟩ : S5) = ⟨ab x', ab v', ab a', ab b', ab c'⟩) (w : World) : Calls Try.prog 18 #[.agg #[.float .f64 x, .float .f64 v, .float .f64 a, .float .f64 b, .float .f64 c], .agg #[.float .f64 x', .float .f64 v', .float .f64 a', .float .f64 b', .float .f64 c']] w (TU w) := by
  have := t18 x v a b c x' v' a' b' c' w
  rw [← h, same_self] at this
  exact this
theorem sr_same {s t : S5} {x v a b c x' v' a' b' c' : Nat} (h1 : ab x = s.x ∧ ab v = s.v ∧ ab a = s.a ∧ ab b = s.b ∧ ab c = s.c) (h2 : ab x' = t.x ∧ ab v' = t.v ∧ ab a' = t.a ∧ ab b' = t.b ∧ ab c' = t.c) (h : s = t) : (⟨ab x, ab v, ab a, ab b, ab c⟩ : S5) = ⟨ab x', ab v', ab a', ab b', ab c'⟩ := by
  subst h
  obtain ⟨e1, e2, e3, e4, e5⟩ := h1
  obtain ⟨d1, d2, d3, d4, d5⟩ := h2
  rw [e1, e2, e3, e4, e5, d1, d2, d3, d4, d5]
theorem PQ.hid {w W : World} {g1 g2 h : Nat} {A B X : Array Value} (k : PQ w W g1 g2 h A B X) : Hid (PQ w W g1 g2 h A B X) := k
/-- What the loop keeps. -/
def LI (w : World) (g1 g2 : Nat) (W : World) : Prop := ∃ xA vA aA bA cA xB vB aB bB cB, Up w W ∧ W.heap[g1]? = some (.cells #[.float .f64 xA, .float .f64 vA, .float .f64 aA, .float .f64 bA, .float .f64 cA] 24) ∧ W.heap[g2]? = some (.cells #[.float .f64 xB, .float .f64 vB, .float .f64 aB, .float .f64 bB, .float .f64 cB] 24) ∧ (⟨ab xA, ab vA, ab aA, ab bA, ab cA⟩ : S5) = (⟨ab xB, ab vB, ab aB, ab bB, ab cB⟩ : S5)
set_option maxHeartbeats 8000000 in
set_option maxRecDepth 100000 in
theorem t3 (x v a b c : Nat) (P : Option Addr) (blk off n cap : Nat) (K : Nat → Int) (X Y : Nat → Nat) (w : World) (hp : 0 < n → P = some ⟨blk, off, none⟩)
    (hc : ∀ i, i < n → w.cell? ⟨blk, off + i * 3, none⟩ = some (.int .i64 (K i)) ∧ w.cell? ⟨blk, off + i * 3 + 1, none⟩ = some (.float .f64 (X i)) ∧ w.cell? ⟨blk, off + i * 3 + 2, none⟩ = some (.float .f64 (Y i)))
    (hn : n ≤ 9223372036854775807) : Calls Try.prog 3 #[.agg #[.float .f64 x, .float .f64 v, .float .f64 a, .float .f64 b, .float .f64 c], .slice P n cap] w (TU w) := by
  have HC : Hid (∀ i, i < n → w.cell? ⟨blk, off + i * 3, none⟩ = some (.int .i64 (K i)) ∧ w.cell? ⟨blk, off + i * 3 + 1, none⟩ = some (.float .f64 (X i)) ∧ w.cell? ⟨blk, off + i * 3 + 2, none⟩ = some (.float .f64 (Y i))) := hc
  have HPt : Hid (0 < n → P = some ⟨blk, off, none⟩) := hp
  clear hc hp
  obtain ⟨b0, b1, b2, b3, b4⟩ := BC.new w x v a b c
  go_enter Try.func3, Try.ntmps3
  go_wp2
  have HL : Hid (LI w (w.heap.size + 1) (w.heap.size + 1 + 1) (((w.alloc (.cells #[.float .f64 x, .float .f64 v, .float .f64 a, .float .f64 b, .float .f64 c] 24)).alloc (.cells #[.float .f64 x, .float .f64 v, .float .f64 a, .float .f64 b, .float .f64 c] 24)).alloc (.cells #[.float .f64 x, .float .f64 v, .float .f64 a, .float .f64 b, .float .f64 c] 24))) := ⟨x, v, a, b, c, x, v, a, b, c, ((Up.alloc2 _ _ _).al _), row_up (alloc2_last w _ _) (Up.alloc _ _), by rw [← size2]; exact heap_alloc_last _ _, rfl⟩
  have hl1 : w.heap.size ≤ w.heap.size + 1 := by omega
  have hl2 : w.heap.size ≤ w.heap.size + 1 + 1 := by omega
  have ne12 : w.heap.size + 1 ≠ w.heap.size + 1 + 1 := by omega
  clear b0 b1 b2 b3 b4
  generalize ((w.alloc (.cells #[.float .f64 x, .float .f64 v, .float .f64 a, .float .f64 b, .float .f64 c] 24)).alloc (.cells #[.float .f64 x, .float .f64 v, .float .f64 a, .float .f64 b, .float .f64 c] 24)).alloc (.cells #[.float .f64 x, .float .f64 v, .float .f64 a, .float .f64 b, .float .f64 c] 24) = W0 at *
  generalize w.heap.size + 1 + 1 = g2 at *
  generalize w.heap.size + 1 = g1 at *
  go_loopw [7, 8] (fun i _ wr => ∃ k : Nat, k ≤ n ∧ i = .int .i64 k ∧ Hid (LI w g1 g2 wr)) (fun i _ _ => n - (intOf i).toNat)
  case atStart => exact ⟨0, by omega, rfl, HL⟩
  case round =>
    clear HL
    obtain ⟨k, hk, rfl, HT⟩ := hrel
    obtain ⟨xA, vA, aA, bA, cA, xB, vB, aB, bB, cB, HU0, HR10, HR20, HE0⟩ := HT.out
    have HU : Hid (Up w wr) := HU0
    have HR1 : Hid (wr.heap[g1]? = some (.cells #[.float .f64 xA, .float .f64 vA, .float .f64 aA, .float .f64 bA, .float .f64 cA] 24)) := HR10
    have HR2 : Hid (wr.heap[g2]? = some (.cells #[.float .f64 xB, .float .f64 vB, .float .f64 aB, .float .f64 bB, .float .f64 cB] 24)) := HR20
    have HE : Hid ((⟨ab xA, ab vA, ab aA, ab bA, ab cA⟩ : S5) = (⟨ab xB, ab vB, ab aB, ab bB, ab cB⟩ : S5)) := HE0
    clear HU0 HR10 HR20 HE0 HT
    by_cases hlt : k < n
    · obtain rfl := HPt.out (by omega)
      obtain ⟨q0, q1, q2⟩ := HC.out k hlt
      generalize K k = κ at q0
      generalize X k = p at q1
      generalize Y k = q at q2
      replace q0 := up_cell HU.out q0
      replace q1 := up_cell HU.out q1
      replace q2 := up_cell HU.out q2
      have hkz : (k : Int) < (n : Int) := by omega
      go_upto_region 7 with fail
      have HP : Hid (PQ w (wr.alloc (.cells #[.int .i64 κ, .float .f64 p, .float .f64 q] 27)) g1 g2 wr.heap.size #[.float .f64 xA, .float .f64 vA, .float .f64 aA, .float .f64 bA, .float .f64 cA] #[.float .f64 xB, .float .f64 vB, .float .f64 aB, .float .f64 bB, .float .f64 cB] #[.int .i64 κ, .float .f64 p, .float .f64 q]) := ⟨HU.out.al _, row_up HR1.out (Up.alloc _ _), row_up HR2.out (Up.alloc _ _), heap_alloc_last _ _⟩
      have n31 : wr.heap.size ≠ g1 := by have := (Array.getElem?_eq_some_iff.1 HR1.out).1; omega
      have n32 : wr.heap.size ≠ g2 := by have := (Array.getElem?_eq_some_iff.1 HR2.out).1; omega
      clear HU HR1 HR2 q0 q1 q2
      generalize wr.alloc (.cells #[.int .i64 κ, .float .f64 p, .float .f64 q] 27) = W1 at *
      generalize wr.heap.size = h at *
      obtain ⟨c0, c1, c2⟩ := x_row HP.out.r3
      refine wp_region_sp 20 [.val (.agg #[.float .f64 xA, .float .f64 vA, .float .f64 aA, .float .f64 bA, .float .f64 cA]), .val (.pointer (some ⟨h, 1, none⟩)), .val (.float .f64 p), .val (.pointer (some ⟨h, 2, none⟩)), .val (.float .f64 q), .fl (farF (⟨ab xA, ab vA, ab aA, ab bA, ab cA⟩ : S5) (ab p) (ab q)), .val (.agg #[.float .f64 xB, .float .f64 vB, .float .f64 aB, .float .f64 bB, .float .f64 cB]), .val (.pointer (some ⟨h, 1, none⟩)), .val (.float .f64 p), .val (.pointer (some ⟨h, 2, none⟩)), .val (.float .f64 q), .fl (farF (⟨ab xB, ab vB, ab aB, ab bB, ab cB⟩ : S5) (ab p) (ab q)), .val (.bool true), .val (.bool false), .val (.bool false), .val (.agg #[.float .f64 xA, .float .f64 vA, .float .f64 aA, .float .f64 bA, .float .f64 cA]), .val (.bool (mayF (⟨ab xA, ab vA, ab aA, ab bA, ab cA⟩ : S5))), .val (.agg #[.float .f64 xB, .float .f64 vB, .float .f64 aB, .float .f64 bB, .float .f64 cB]), .val (.bool (mayF (⟨ab xA, ab vA, ab aA, ab bA, ab cA⟩ : S5))), .val (.bool false)] (UpC _) (by kernel_rfl) (by decide) rfl (by kernel_rfl) ⟨good_far _ _ _, good_far _ _ _, trivial⟩ (UpC.start _) ?_
      intro rs hF
      obtain ⟨h5, h11, _⟩ := hF
      simp only [List.take_succ_cons, List.take_zero, valsL, FillL, Act.put, List.setIfInBounds_toArray, List.set_cons_succ, List.set_cons_zero, Nat.zero_add, Nat.reduceAdd]
      refine ⟨⟨LoosO.row (by kernel_rfl) rfl rfl rfl (fun w hw => row_up HP.out.r1 ((Up.drew _).trans hw)),
        LoosO.isW (by kernel_rfl) (fun w hw => by go_simp),
        LoosO.isW (by kernel_rfl) (fun w hw => by have z := up_cell ((Up.drew _).trans hw) c1; go_simp),
        LoosO.isW (by kernel_rfl) (fun w hw => by go_simp),
        LoosO.isW (by kernel_rfl) (fun w hw => by have z := up_cell ((Up.drew _).trans hw) c2; go_simp),
        LoosO.callF (by kernel_rfl) rfl #[.agg #[.float .f64 xA, .float .f64 vA, .float .f64 aA, .float .f64 bA, .float .f64 cA], .float .f64 p, .float .f64 q] (by kernel_rfl) (eg10 _) (fun w hw => (t10 xA vA aA bA cA p q w).mono fun _ _ ⟨r, k1, k2, k3⟩ => ⟨r, k1, k2.out, UpC.then hw k3.out⟩),
        LoosO.row (by kernel_rfl) rfl rfl rfl (fun w hw => row_up HP.out.r2 ((Up.drew _).trans hw)),
        LoosO.isW (by kernel_rfl) (fun w hw => by go_simp),
        LoosO.isW (by kernel_rfl) (fun w hw => by have z := up_cell ((Up.drew _).trans hw) c1; go_simp),
        LoosO.isW (by kernel_rfl) (fun w hw => by go_simp),
        LoosO.isW (by kernel_rfl) (fun w hw => by have z := up_cell ((Up.drew _).trans hw) c2; go_simp),
        LoosO.callF (by kernel_rfl) rfl #[.agg #[.float .f64 xB, .float .f64 vB, .float .f64 aB, .float .f64 bB, .float .f64 cB], .float .f64 p, .float .f64 q] (by kernel_rfl) (eg11 _) (fun w hw => (t11 xB vB aB bB cB p q w).mono fun _ _ ⟨r, k1, k2, k3⟩ => ⟨r, k1, k2.out, UpC.then hw k3.out⟩),
        LoosO.callV (by kernel_rfl) rfl #[.float .f64 (rs 5), .float .f64 (rs 11)] (by kernel_rfl) (eg9 _) (fun w hw => (t9 (rs 5) (rs 11) w).mono fun _ _ k => ⟨by rw [k.1, h5.out, h11.out, ← HE.out]; simp, by rw [k.2]; exact hw⟩),
        LoosO.isW (by kernel_rfl) (fun w hw => by go_simp),
        LoosO.isW (by kernel_rfl) (fun w hw => by go_simp),
        LoosO.row (by kernel_rfl) rfl rfl rfl (fun w hw => row_up HP.out.r1 ((Up.drew _).trans hw)),
        LoosO.callV (by kernel_rfl) rfl #[.agg #[.float .f64 xA, .float .f64 vA, .float .f64 aA, .float .f64 bA, .float .f64 cA]] (by kernel_rfl) (eg12 _) (fun w hw => (t12 xA vA aA bA cA w).mono fun _ _ k => ⟨k.1, UpC.then hw k.2.out⟩),
        LoosO.row (by kernel_rfl) rfl rfl rfl (fun w hw => row_up HP.out.r2 ((Up.drew _).trans hw)),
        LoosO.callV (by kernel_rfl) rfl #[.agg #[.float .f64 xB, .float .f64 vB, .float .f64 aB, .float .f64 bB, .float .f64 cB]] (by kernel_rfl) (eg13 _) (fun w hw => (t13 xB vB aB bB cB w).mono fun _ _ k => ⟨by rw [k.1, ← HE.out], UpC.then hw k.2.out⟩),
        LoosO.isW (by kernel_rfl) (fun w hw => by go_simp), trivial⟩, ?_⟩
      intro w9 hw9
      simp only [List.drop_succ_cons, List.drop_zero]
      have HP9 : Hid (PQ w w9 g1 g2 h #[.float .f64 xA, .float .f64 vA, .float .f64 aA, .float .f64 bA, .float .f64 cA] #[.float .f64 xB, .float .f64 vB, .float .f64 aB, .float .f64 bB, .float .f64 cB] #[.int .i64 κ, .float .f64 p, .float .f64 q]) := HP.out.grow ((Up.drew _).trans hw9)
      clear HP hw9 c0 c1 c2 h5 h11
      rename Hid (PQ w w9 g1 g2 h #[.float .f64 xA, .float .f64 vA, .float .f64 aA, .float .f64 bA, .float .f64 cA] #[.float .f64 xB, .float .f64 vB, .float .f64 aB, .float .f64 bB, .float .f64 cB] #[.int .i64 κ, .float .f64 p, .float .f64 q]) => HP
      obtain ⟨c0, c1, c2⟩ := x_row HP.out.r3
      by_cases h0 : κ = 0
      · subst h0
        obtain ⟨d0, d1, d2, d3, d4⟩ := bc_row HP.out.r1
        obtain ⟨c0, c1, c2⟩ := x_row HP.out.r3
        go_upto_region 12 with (go_at_call 14; (with_reducible refine (t14 _ _ _ _ _ _ _ _).mono ?_); rintro e w2 ⟨xC, vC, aC, bC, cC, rfl, hs1, u2⟩; obtain ⟨i0, i1, i2, i3, i4⟩ := bc_row (HP.out.grow u2.out).r1; obtain ⟨j0, j1, j2, j3, j4⟩ := fz_row (HP.out.grow u2.out).r1)
        have HP2 := ((HP.out.grow u2.out).put1 rfl hl1 (Ne.symm ne12) n31 (.float .f64 xC) (.float .f64 vC) (.float .f64 aC) (.float .f64 bC) (.float .f64 cC)).hid
        clear HP d0 d1 d2 d3 d4 c0 c1 c2 u2 i0 i1 i2 i3 i4 j0 j1 j2 j3 j4
        generalize ((((((w2.setCell ⟨g1, 0, none⟩ (.float .f64 xC)).setCell ⟨g1, 1, none⟩ (.float .f64 vC)).setCell ⟨g1, 2, none⟩ (.float .f64 aC)).setCell ⟨g1, 3, none⟩ (.float .f64 bC)).setCell ⟨g1, 4, none⟩ (.float .f64 cC))) = W2 at *
        obtain ⟨d0, d1, d2, d3, d4⟩ := bc_row HP2.out.r2
        obtain ⟨c0, c1, c2⟩ := x_row HP2.out.r3
        go_wp2_with (first
          | (go_at_call 15; (with_reducible refine (t15 _ _ _ _ _ _ _ _).mono ?_); rintro e w3 ⟨xD, vD, aD, bD, cD, rfl, hs2, u3⟩; have HP3 := ((HP2.out.grow u3.out).put2 rfl hl2 ne12 n32 (.float .f64 xD) (.float .f64 vD) (.float .f64 aD) (.float .f64 bD) (.float .f64 cD)).hid; have HE3 : Hid ((⟨ab xC, ab vC, ab aC, ab bC, ab cC⟩ : S5) = (⟨ab xD, ab vD, ab aD, ab bD, ab cD⟩ : S5)) := sr_same hs1.out hs2.out (by rw [HE.out]); obtain ⟨i0, i1, i2, i3, i4⟩ := bc_row (HP2.out.grow u3.out).r2; obtain ⟨j0, j1, j2, j3, j4⟩ := fz_row (HP2.out.grow u3.out).r2; clear HP2 d0 d1 d2 d3 d4 c0 c1 c2 u3; obtain ⟨d0, d1, d2, d3, d4⟩ := bc_row HP3.out.r1; obtain ⟨e0, e1, e2, e3, e4⟩ := bc_row HP3.out.r2)
          | (go_at_call 18; (with_reducible refine (t18e HE3.out _).mono ?_); rintro e w5 ⟨rfl, u5⟩))
        go_roundw
        case rel => exact ⟨k + 1, by omega, by go_num, xC, vC, aC, bC, cC, xD, vD, aD, bD, cD, HP3.out.up.trans u5.out, row_up HP3.out.r1 u5.out, row_up HP3.out.r2 u5.out, HE3.out⟩
        case measure => simp [intOf]; omega
      by_cases h1 : κ = 1
      · subst h1
        obtain ⟨d0, d1, d2, d3, d4⟩ := bc_row HP.out.r1
        obtain ⟨c0, c1, c2⟩ := x_row HP.out.r3
        go_upto_region 15 with (go_at_call 16; (with_reducible refine (t16 _ _ _ _ _ _ _ _).mono ?_); rintro e w2 ⟨xC, vC, aC, bC, cC, rfl, hs1, u2⟩; obtain ⟨i0, i1, i2, i3, i4⟩ := bc_row (HP.out.grow u2.out).r1; obtain ⟨j0, j1, j2, j3, j4⟩ := fz_row (HP.out.grow u2.out).r1)
        have HP2 := ((HP.out.grow u2.out).put1 rfl hl1 (Ne.symm ne12) n31 (.float .f64 xC) (.float .f64 vC) (.float .f64 aC) (.float .f64 bC) (.float .f64 cC)).hid
        clear HP d0 d1 d2 d3 d4 c0 c1 c2 u2 i0 i1 i2 i3 i4 j0 j1 j2 j3 j4
        generalize ((((((w2.setCell ⟨g1, 0, none⟩ (.float .f64 xC)).setCell ⟨g1, 1, none⟩ (.float .f64 vC)).setCell ⟨g1, 2, none⟩ (.float .f64 aC)).setCell ⟨g1, 3, none⟩ (.float .f64 bC)).setCell ⟨g1, 4, none⟩ (.float .f64 cC))) = W2 at *
        obtain ⟨d0, d1, d2, d3, d4⟩ := bc_row HP2.out.r2
        obtain ⟨c0, c1, c2⟩ := x_row HP2.out.r3
        go_wp2_with (first
          | (go_at_call 17; (with_reducible refine (t17 _ _ _ _ _ _ _ _).mono ?_); rintro e w3 ⟨xD, vD, aD, bD, cD, rfl, hs2, u3⟩; have HP3 := ((HP2.out.grow u3.out).put2 rfl hl2 ne12 n32 (.float .f64 xD) (.float .f64 vD) (.float .f64 aD) (.float .f64 bD) (.float .f64 cD)).hid; have HE3 : Hid ((⟨ab xC, ab vC, ab aC, ab bC, ab cC⟩ : S5) = (⟨ab xD, ab vD, ab aD, ab bD, ab cD⟩ : S5)) := sr_same hs1.out hs2.out (by rw [HE.out]); obtain ⟨i0, i1, i2, i3, i4⟩ := bc_row (HP2.out.grow u3.out).r2; obtain ⟨j0, j1, j2, j3, j4⟩ := fz_row (HP2.out.grow u3.out).r2; clear HP2 d0 d1 d2 d3 d4 c0 c1 c2 u3; obtain ⟨d0, d1, d2, d3, d4⟩ := bc_row HP3.out.r1; obtain ⟨e0, e1, e2, e3, e4⟩ := bc_row HP3.out.r2)
          | (go_at_call 18; (with_reducible refine (t18e HE3.out _).mono ?_); rintro e w5 ⟨rfl, u5⟩))
        go_roundw
        case rel => exact ⟨k + 1, by omega, by go_num, xC, vC, aC, bC, cC, xD, vD, aD, bD, cD, HP3.out.up.trans u5.out, row_up HP3.out.r1 u5.out, row_up HP3.out.r2 u5.out, HE3.out⟩
        case measure => simp [intOf]; omega
      have i0 : (κ == 0) = false := by simpa using h0
      have i1 : (κ == 1) = false := by simpa using h1
      obtain ⟨d0, d1, d2, d3, d4⟩ := bc_row HP.out.r1
      obtain ⟨e0, e1, e2, e3, e4⟩ := bc_row HP.out.r2
      go_wp2_with (go_at_call 18; (with_reducible refine (t18e HE.out _).mono ?_); rintro e w5 ⟨rfl, u5⟩)
      go_roundw
      case rel => exact ⟨k + 1, by omega, by go_num, xA, vA, aA, bA, cA, xB, vB, aB, bB, cB, HP.out.up.trans u5.out, row_up HP.out.r1 u5.out, row_up HP.out.r2 u5.out, HE.out⟩
      case measure => simp [intOf]; omega
    · obtain rfl : n = k := by omega
      go_upto_region 18 with fail
      refine wp_region_sp 8 [.val (.agg #[.float .f64 xA, .float .f64 vA, .float .f64 aA, .float .f64 bA, .float .f64 cA]), .val (.bool (mayF (⟨ab xA, ab vA, ab aA, ab bA, ab cA⟩ : S5))), .val (.agg #[.float .f64 xB, .float .f64 vB, .float .f64 aB, .float .f64 bB, .float .f64 cB]), .val (.bool (mayF (⟨ab xA, ab vA, ab aA, ab bA, ab cA⟩ : S5))), .val (.bool true), .val (.bool true), .val (.bool true), .val (.bool true)] (UpC _) (by kernel_rfl) (by decide) rfl (by kernel_rfl) trivial (UpC.start _) ?_
      intro rs hF
      clear hF
      simp only [List.take_succ_cons, List.take_zero, valsL, FillL, Act.put, List.setIfInBounds_toArray, List.set_cons_succ, List.set_cons_zero]
      refine ⟨⟨LoosO.row (by kernel_rfl) rfl rfl rfl (fun w hw => row_up HR1.out ((Up.drew _).trans hw)),
        LoosO.callV (by kernel_rfl) rfl #[.agg #[.float .f64 xA, .float .f64 vA, .float .f64 aA, .float .f64 bA, .float .f64 cA]] (by kernel_rfl) (eg12 _) (fun w hw => (t12 xA vA aA bA cA w).mono fun _ _ k => ⟨k.1, UpC.then hw k.2.out⟩),
        LoosO.row (by kernel_rfl) rfl rfl rfl (fun w hw => row_up HR2.out ((Up.drew _).trans hw)),
        LoosO.callV (by kernel_rfl) rfl #[.agg #[.float .f64 xB, .float .f64 vB, .float .f64 aB, .float .f64 bB, .float .f64 cB]] (by kernel_rfl) (eg13 _) (fun w hw => (t13 xB vB aB bB cB w).mono fun _ _ k => ⟨by rw [k.1, ← HE.out], UpC.then hw k.2.out⟩),
        LoosO.isW (by kernel_rfl) (fun w hw => by go_simp),
        LoosO.isW (by kernel_rfl) (fun w hw => by go_simp),
        LoosO.callV (by kernel_rfl) rfl #[] (by kernel_rfl) (eg19 _) (fun w hw => (t19 w).mono fun _ _ k => ⟨k.1, UpC.then hw k.2.out⟩),
        LoosO.isW (by kernel_rfl) (fun w hw => by go_simp), trivial⟩, ?_⟩
      intro w9 hw9
      simp only [List.drop_succ_cons, List.drop_zero]
      have HU9 : Hid (Up w w9) := (HU.out.trans (Up.drew _)).trans hw9
      clear hw9
      go_wp2
      go_ret
      exact ⟨rfl, HU9⟩
end Go.Proofs.Ytdolfkgnehiecaa

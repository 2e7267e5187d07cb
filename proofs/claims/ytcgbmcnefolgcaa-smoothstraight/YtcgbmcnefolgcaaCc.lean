/- A step back, the program's: how it is made. -/
import Derived.Test.YtcgbmcnefolgcaaCb
namespace Go.Proofs.Ytcgbmcnefolgcaa
open Go.ChangeShapes Go.WideShapes Go.ChangeAt Go.RowKit Go.Fl Go.Sort
attribute [local go_sem] run_store_float call22 call54 run_neg fold_eq fold_ne fold_lt fold_gt abs_eq

def detF (p : S5) : Option Nat := lessF p.a p.c p.b p.b
/-- One state back. -/
def stepF (s : S5) (dt sway : Option Nat) (n : S5) : S5 :=
  if (gtF (detF (aheadF s dt sway)) (ab 0) && fin (detF (aheadF s dt sway))) = true then
    afterF (aheadF s dt sway) s n
      (gainA (aheadF s dt sway) (detF (aheadF s dt sway)) (bin .add s.a (bin .mul dt s.b)) s.b) (gainB (aheadF s dt sway) (detF (aheadF s dt sway)) (bin .add s.a (bin .mul dt s.b)) s.b)
      (gainA (aheadF s dt sway) (detF (aheadF s dt sway)) (bin .add s.b (bin .mul dt s.c)) s.c) (gainB (aheadF s dt sway) (detF (aheadF s dt sway)) (bin .add s.b (bin .mul dt s.c)) s.c)
  else s
def BkR (w : World) (s : Stt) (dt sway : Option Nat) (e : Ending) (w' : World) : Prop := ∃ fg cb, e = .returned (.func (.func fg) #[] cb) ∧ Hid (∀ (n : Stt) (w'' : World), Up w' w'' → Calls Try.prog fg (#[n.val] ++ cb) w'' (SR w'' (stepF s.ab dt sway n.ab))) ∧ Hid (∀ args w, (callFunc fg args).run Try.prog w = .ok (.enter fg args) w) ∧ Hid (Up w w')
theorem eg56 (args : Array Value) (w : World) : (callFunc 56 args).run Try.prog w = .ok (.enter 56 args) w := enters Try.func56 (by kernel_rfl) (by kernel_rfl) _ _
theorem eg57 (args : Array Value) (w : World) : (callFunc 57 args).run Try.prog w = .ok (.enter 57 args) w := enters Try.func57 (by kernel_rfl) (by kernel_rfl) _ _
theorem eg58 (args : Array Value) (w : World) : (callFunc 58 args).run Try.prog w = .ok (.enter 58 args) w := enters Try.func58 (by kernel_rfl) (by kernel_rfl) _ _
theorem two_box (w : World) (x y : Value) (t : TypeId) : ((w.alloc (.cells #[x] t)).alloc (.cells #[y] t)).cell? ⟨w.heap.size, 0, none⟩ = some x ∧ ((w.alloc (.cells #[x] t)).alloc (.cells #[y] t)).cell? ⟨w.heap.size + 1, 0, none⟩ = some y := by
  refine ⟨up_cell (Up.alloc _ _) (box_cell w x t 0), ?_⟩
  have := box_cell (w.alloc (.cells #[x] t)) y t 0
  rw [show (w.alloc (.cells #[x] t)).heap.size = w.heap.size + 1 by simp] at this
  exact this
set_option maxHeartbeats 4000000 in
theorem t30 (s : Stt) (t q : Nat) (w : World) : Calls Try.prog 30 #[s.val, .float .f64 t, .float .f64 q] w (BkR w s (ab t) (ab q)) := by
  obtain ⟨x, v, a, b, c⟩ := s
  have HB := BC.new w x v a b c
  obtain ⟨b0, b1, b2, b3, b4⟩ := HB
  have HR : Hid ((w.alloc (.cells #[.float .f64 x, .float .f64 v, .float .f64 a, .float .f64 b, .float .f64 c] 27)).heap[w.heap.size]? = some (.cells #[.float .f64 x, .float .f64 v, .float .f64 a, .float .f64 b, .float .f64 c] 27)) := heap_alloc_last _ _
  have HU : Hid (Up w (w.alloc (.cells #[.float .f64 x, .float .f64 v, .float .f64 a, .float .f64 b, .float .f64 c] 27))) := Up.alloc _ _
  go_enter Try.func30, Try.ntmps30
  go_wp2_with fail
  generalize w.alloc (.cells #[.float .f64 x, .float .f64 v, .float .f64 a, .float .f64 b, .float .f64 c] 27) = W at *
  generalize w.heap.size = gs at *
  refine (t26 x v a b c t q W).mono ?_
  rintro e w1 ⟨px, pv, pa, pb, pc, rfl, HP, U1⟩
  go_upto_region 3 with (first
    | ((with_reducible refine upon_fl (op := .mul) (x := pa) (y := pc) (by simp) ?_); intro r1 n1 k1)
    | ((with_reducible refine upon_fl (op := .mul) (x := pb) (y := pb) (by simp) ?_); intro r2 n2 k2)
    | ((with_reducible refine upon_fl (op := .sub) (by simp) ?_); intro r3 n3 k3))
  have KD : Hid (ab r3 = detF (aheadF ⟨ab x, ab v, ab a, ab b, ab c⟩ (ab t) (ab q))) := by
    obtain ⟨e1, e2, e3, e4, e5⟩ := HP.out
    show _ = _
    unfold detF lessF
    rw [k3.out, k1.out, k2.out, e3, e4, e5]
  clear k1 k2 k3
  have U3 : Hid (Up w1 (((w1.alloc (.cells #[.float .f64 px, .float .f64 pv, .float .f64 pa, .float .f64 pb, .float .f64 pc] 27)).drewN (n1 + n2 + n3)).alloc (.cells #[.float .f64 r3] 24))) := ((Up.alloc _ _).dr _).al _
  have P3 : Hid (BC (((w1.alloc (.cells #[.float .f64 px, .float .f64 pv, .float .f64 pa, .float .f64 pb, .float .f64 pc] 27)).drewN (n1 + n2 + n3)).alloc (.cells #[.float .f64 r3] 24)) w1.heap.size px pv pa pb pc) := (BC.new w1 px pv pa pb pc).up (((Up.refl _).dr _).al _)
  have D3 : Hid ((((w1.alloc (.cells #[.float .f64 px, .float .f64 pv, .float .f64 pa, .float .f64 pb, .float .f64 pc] 27)).drewN (n1 + n2 + n3)).alloc (.cells #[.float .f64 r3] 24)).cell? ⟨w1.heap.size + 1, 0, none⟩ = some (.float .f64 r3)) := by
    have := box_cell ((w1.alloc (.cells #[.float .f64 px, .float .f64 pv, .float .f64 pa, .float .f64 pb, .float .f64 pc] 27)).drewN (n1 + n2 + n3)) (.float .f64 r3) 24 0
    rw [show ((w1.alloc (.cells #[.float .f64 px, .float .f64 pv, .float .f64 pa, .float .f64 pb, .float .f64 pc] 27)).drewN (n1 + n2 + n3)).heap.size = w1.heap.size + 1 from by show (w1.alloc _).heap.size = _; simp] at this
    exact this
  generalize (((w1.alloc (.cells #[.float .f64 px, .float .f64 pv, .float .f64 pa, .float .f64 pb, .float .f64 pc] 27)).drewN (n1 + n2 + n3)).alloc (.cells #[.float .f64 r3] 24)) = W3 at *
  generalize w1.heap.size + 1 = gd at *
  generalize w1.heap.size = gp at *
  have R3 : Hid (W3.heap[gs]? = some (.cells #[.float .f64 x, .float .f64 v, .float .f64 a, .float .f64 b, .float .f64 c] 27)) := row_up HR.out (U1.out.trans U3.out)
  have U4 : Hid (Up w W3) := HU.out.trans (U1.out.trans U3.out)
  clear HR HU U1 U3 b0 b1 b2 b3 b4
  have d0 := D3.out
  obtain ⟨b0, b1, b2, b3, b4⟩ := BC.of_row R3.out
  have HK : ∀ z, (gtF (detF (aheadF ⟨ab x, ab v, ab a, ab b, ab c⟩ (ab t) (ab q))) (ab 0) && fin (detF (aheadF ⟨ab x, ab v, ab a, ab b, ab c⟩ (ab t) (ab q)))) = z → (gtF (ab r3) (ab 0) && fin (ab r3)) = z := fun z h => by rw [KD.out]; exact h
  cases hz : (gtF (detF (aheadF ⟨ab x, ab v, ab a, ab b, ab c⟩ (ab t) (ab q))) (ab 0) && fin (detF (aheadF ⟨ab x, ab v, ab a, ab b, ab c⟩ (ab t) (ab q))))
  · have hz' := HK _ hz
    clear HK
    have HS : Hid (∀ n, stepF ⟨ab x, ab v, ab a, ab b, ab c⟩ (ab t) (ab q) n = ⟨ab x, ab v, ab a, ab b, ab c⟩) := fun n => by unfold stepF; rw [hz]; rfl
    clear hz
    have HC : Hid (∀ (n : Stt) (w'' : World), Up W3 w'' → Calls Try.prog 56 (#[n.val] ++ #[.pointer (some ⟨gs, 0, none⟩)]) w'' (SR w'' (stepF ⟨ab x, ab v, ab a, ab b, ab c⟩ (ab t) (ab q) n.ab))) := fun n w'' hu => by
      rw [HS.out]
      exact t56 (s := ⟨x, v, a, b, c⟩) (row_up R3.out hu) n
    cases hg : gtF (ab r3) (ab 0)
    · clear hz'
      go_wp2
      go_ret
      exact ⟨56, _, rfl, HC, eg56, U4⟩
    · have hf : fin (ab r3) = false := by rw [hg] at hz'; simpa using hz'
      clear hz'
      go_wp2_with (go_at_call 43; (with_reducible refine (t43 r3 _).mono ?_); rintro e w' ⟨rfl, hw⟩; subst w'; rw [hf])
      go_ret
      exact ⟨56, _, rfl, HC, eg56, U4⟩
  · have hz' := HK _ hz
    clear HK
    simp only [Bool.and_eq_true] at hz'
    obtain ⟨hg, hf⟩ := hz'
    have HZ : Hid _ := hz
    clear hz
    have C57 : Hid (∀ w'', Up W3 w'' → ∀ m1 m2, Calls Try.prog 57 (#[.float .f64 m1, .float .f64 m2] ++ #[.pointer (some ⟨gp, 0, none⟩), .pointer (some ⟨gd, 0, none⟩)]) w'' fun e w' => ∃ c1 c2 n, e = .returned (.tuple #[.float .f64 c1, .float .f64 c2]) ∧ w' = w''.drewN n ∧ Hid (ab c1 = gainA ⟨ab px, ab pv, ab pa, ab pb, ab pc⟩ (ab r3) (ab m1) (ab m2) ∧ ab c2 = gainB ⟨ab px, ab pv, ab pa, ab pb, ab pc⟩ (ab r3) (ab m1) (ab m2))) := fun w'' hu m1 m2 => t57 (P3.out.up hu) (up_cell hu D3.out) m1 m2
    go_wp2_with (first
      | (go_at_call 43; (with_reducible refine (t43 r3 _).mono ?_); rintro e w' ⟨rfl, hw⟩; subst w'; rw [hf])
      | ((with_reducible refine upon_fl (op := .mul) (by simp) ?_); intro r4 n4 k4)
      | ((with_reducible refine upon_fl (op := .add) (by simp) ?_); intro r5 n5 k5))
    refine (C57.out _ (Up.drewN _ _) r5 b).mono ?_
    rintro e w4 ⟨c1, c2, j1, rfl, hw, G1⟩
    have V4 : Hid (Up W3 w4) := by rw [hw]; exact (Up.drewN _ _).trans (Up.drewN _ _)
    clear hw
    replace b0 := up_cell V4.out b0
    replace b1 := up_cell V4.out b1
    replace b2 := up_cell V4.out b2
    replace b3 := up_cell V4.out b3
    replace b4 := up_cell V4.out b4
    have V5 : Hid (Up W3 ((w4.alloc (.cells #[.float .f64 c1] 24)).alloc (.cells #[.float .f64 c2] 24))) := V4.out.trans (Up.alloc2 _ _ _)
    have T5 := two_box w4 (.float .f64 c1) (.float .f64 c2) 24
    have V4' : Hid (Up w4 ((w4.alloc (.cells #[.float .f64 c1] 24)).alloc (.cells #[.float .f64 c2] 24))) := Up.alloc2 _ _ _
    go_upto_region 7 with fail
    generalize (w4.alloc (.cells #[.float .f64 c1] 24)).alloc (.cells #[.float .f64 c2] 24) = W5 at *
    obtain ⟨t1, t2⟩ := T5
    have T1 : Hid _ := t1
    have T2 : Hid _ := t2
    clear t1 t2
    generalize w4.heap.size + 1 = g2 at *
    generalize w4.heap.size = g1 at *
    replace b0 := up_cell V4'.out b0
    replace b1 := up_cell V4'.out b1
    replace b2 := up_cell V4'.out b2
    replace b3 := up_cell V4'.out b3
    replace b4 := up_cell V4'.out b4
    clear V4 V4'
    go_wp2_with (first
      | ((with_reducible refine upon_fl (op := .mul) (by simp) ?_); intro r6 n6 k6)
      | ((with_reducible refine upon_fl (op := .add) (by simp) ?_); intro r7 n7 k7))
    refine (C57.out _ (V5.out.trans (Up.drewN _ _)) r7 c).mono ?_
    rintro e w6 ⟨c3, c4, j2, rfl, hw, G2⟩
    have V6 : Hid (Up W5 w6) := by rw [hw]; exact (Up.drewN _ _).trans (Up.drewN _ _)
    clear hw
    have V7 : Hid (Up W5 ((w6.alloc (.cells #[.float .f64 c3] 24)).alloc (.cells #[.float .f64 c4] 24))) := V6.out.trans (Up.alloc2 _ _ _)
    have T7 := two_box w6 (.float .f64 c3) (.float .f64 c4) 24
    go_upto_region 8 with fail
    generalize (w6.alloc (.cells #[.float .f64 c3] 24)).alloc (.cells #[.float .f64 c4] 24) = W7 at *
    generalize w6.heap.size + 1 = g4 at *
    generalize w6.heap.size = g3 at *
    have KK : Hid (KB W7 gp g1 g2 g3 g4 gs ⟨px, pv, pa, pb, pc⟩ ⟨x, v, a, b, c⟩ c1 c2 c3 c4) := ⟨P3.out.up (V5.out.trans V7.out), up_cell V7.out T1.out, up_cell V7.out T2.out, T7.1, T7.2, row_up R3.out (V5.out.trans V7.out)⟩
    clear T7 C57
    have HC : Hid (∀ (n : Stt) (w'' : World), Up W7 w'' → Calls Try.prog 58 (#[n.val] ++ #[.pointer (some ⟨gp, 0, none⟩), .pointer (some ⟨g1, 0, none⟩), .pointer (some ⟨g2, 0, none⟩), .pointer (some ⟨g3, 0, none⟩), .pointer (some ⟨g4, 0, none⟩), .pointer (some ⟨gs, 0, none⟩)]) w'' (SR w'' (stepF ⟨ab x, ab v, ab a, ab b, ab c⟩ (ab t) (ab q) n.ab))) := fun n w'' hu => by
      have h := t58 (KK.out.up hu) n
      obtain ⟨e1, e2, e3, e4, e5⟩ := HP.out
      have eP : (⟨ab px, ab pv, ab pa, ab pb, ab pc⟩ : S5) = aheadF ⟨ab x, ab v, ab a, ab b, ab c⟩ (ab t) (ab q) := by rw [e1, e2, e3, e4, e5]
      obtain ⟨f1, f2⟩ := G1.out
      obtain ⟨f3, f4⟩ := G2.out
      rw [eP, k5.out, k4.out, KD.out] at f1 f2
      rw [eP, k7.out, k6.out, KD.out] at f3 f4
      simp only [Stt.ab] at h ⊢
      rw [eP, f1, f2, f3, f4] at h
      unfold stepF
      rw [if_pos HZ.out]
      exact h
    go_wp2
    go_ret
    exact ⟨58, _, rfl, HC, eg58, U4.out.trans (V5.out.trans V7.out)⟩
end Go.Proofs.Ytcgbmcnefolgcaa

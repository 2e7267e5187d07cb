/- Two lists of states, held against each other. -/
import Derived.Test.YtcgbmcnefolgcaaFb
import Derived.Test.YtcgbmcnefolgcaaEa
namespace Go.Proofs.Ytcgbmcnefolgcaa
open Go.ChangeShapes Go.WideShapes Go.ChangeAt Go.RowKit Go.Fl Go.Sort
attribute [local go_sem] run_store_float call22 call54 run_neg fold_eq fold_ne fold_lt fold_gt abs_eq

theorem same_of {s t : Stt} (h : s.ab = t.ab) : sameF ⟨ab s.x, ab s.v, ab s.a, ab s.b, ab s.c⟩ ⟨ab t.x, ab t.v, ab t.a, ab t.b, ab t.c⟩ = true := by
  unfold Stt.ab at h
  simp only [S5.mk.injEq] at h
  obtain ⟨h1, h2, h3, h4, h5⟩ := h
  unfold sameF
  simp [h1, h2, h3, h4, h5]
theorem eg34 (args : Array Value) (w : World) : (callFunc 34 args).run Try.prog w = .ok (.enter 34 args) w := enters Try.func34 (by kernel_rfl) (by kernel_rfl) _ _
set_option maxHeartbeats 2000000 in
theorem t13 {w : World} {p p2 : Option Addr} {n ca cb : Nat} {A B : Nat → Stt} (ha : SS w p n ca A) (hb : SS w p2 n cb B) (hE : ∀ i, i < n → (A i).ab = (B i).ab) : Calls Try.prog 13 #[.slice p n ca, .slice p2 n cb] w (TU w) := by
  have HA : Hid (SS w p n ca A) := ha
  have HB : Hid (SS w p2 n cb B) := hb
  have HE : Hid (∀ i, i < n → (A i).ab = (B i).ab) := hE
  have hf := ha.few
  have z0 : (n : Int) ≤ 2000000 := by omega
  clear ha hb hE
  go_enter Try.func13, Try.ntmps13
  go_wp2
  go_loopw [5, 13] (fun _ vi wr => ∃ i : Nat, i ≤ n ∧ vi = .int .i64 i ∧ Hid (Up w wr)) (fun _ vi _ => n - (intOf vi).toNat)
  case atStart => exact ⟨0, by omega, rfl, Up.refl _⟩
  case round =>
    obtain ⟨i, hi, rfl, HU⟩ := hrel
    rename World => wr
    by_cases hlt : i < n
    · obtain ⟨b, o, hp, hr⟩ := HA.out.rd (by omega)
      obtain ⟨b2, o2, hp2, hr2⟩ := HB.out.rd (by omega)
      subst hp
      subst hp2
      have hs := same_of (HE.out i hlt)
      have C := (hr i hlt).up HU.out
      have D := (hr2 i hlt).up HU.out
      generalize A i = s at *
      generalize B i = s' at *
      obtain ⟨x, v, a, b', c⟩ := s
      obtain ⟨nx, nv, na, nb, nc⟩ := s'
      obtain ⟨c0, c1, c2, c3, c4⟩ := C
      obtain ⟨m0, m1, m2, m3, m4⟩ := D
      simp only at c0 c1 c2 c3 c4 m0 m1 m2 m3 m4
      have HSm : Hid _ := hs
      have z1 : (i : Int) < (n : Int) := by omega
      clear hr hr2 hs
      go_wp2_with fail
      refine wp_region_shut 9 [(0, none), (1, none), (2, none), (3, some false), (4, none), (5, none), (6, none), (7, some false), (8, some true)] (fun w9 => Up wr w9) (by kernel_rfl) (by decide) rfl (by kernel_rfl) (fun _ _ d _ _ h => by cases d <;> exact h) (Up.drew wr) ?_
      refine OrdS.looks (.slice (some ⟨b, o, none⟩) n ca) (some 16) _ rfl rfl (Or.inl ⟨by kernel_rfl, fun w' hS => ?_⟩) ?_
      · go_simp
      refine OrdS.looks (.int .i64 i) (some 17) _ rfl rfl (Or.inl ⟨by kernel_rfl, fun w' hS => ?_⟩) ?_
      · go_simp
      refine OrdS.looks (.pointer (some ⟨b, o + i * 5, none⟩)) (some 18) _ rfl rfl (Or.inl ⟨by kernel_rfl, fun w' hS => ?_⟩) ?_
      · go_simp
      refine OrdS.reads (.agg #[.float .f64 x, .float .f64 v, .float .f64 a, .float .f64 b', .float .f64 c]) (some 19) _ rfl rfl (Or.inl ⟨by kernel_rfl, fun w' hS => ?_⟩) ?_
      · have l0 := cell_up c0 hS; have l1 := cell_up c1 hS; have l2 := cell_up c2 hS; have l3 := cell_up c3 hS; have l4 := cell_up c4 hS
        go_simp
      refine OrdS.looks (.slice (some ⟨b2, o2, none⟩) n cb) (some 20) _ rfl rfl (Or.inl ⟨by kernel_rfl, fun w' hS => ?_⟩) ?_
      · go_simp
      refine OrdS.looks (.int .i64 i) (some 21) _ rfl rfl (Or.inl ⟨by kernel_rfl, fun w' hS => ?_⟩) ?_
      · go_simp
      refine OrdS.looks (.pointer (some ⟨b2, o2 + i * 5, none⟩)) (some 22) _ rfl rfl (Or.inl ⟨by kernel_rfl, fun w' hS => ?_⟩) ?_
      · go_simp
      refine OrdS.reads (.agg #[.float .f64 nx, .float .f64 nv, .float .f64 na, .float .f64 nb, .float .f64 nc]) (some 23) _ rfl rfl (Or.inl ⟨by kernel_rfl, fun w' hS => ?_⟩) ?_
      · have l0 := cell_up m0 hS; have l1 := cell_up m1 hS; have l2 := cell_up m2 hS; have l3 := cell_up m3 hS; have l4 := cell_up m4 hS
        go_simp
      simp only [Act.put, List.setIfInBounds_toArray, List.set_cons_succ, List.set_cons_zero]
      refine OrdS.does ?_
      refine wpOp_call (f := 34) rfl rfl rfl #[.agg #[.float .f64 x, .float .f64 v, .float .f64 a, .float .f64 b', .float .f64 c], .agg #[.float .f64 nx, .float .f64 nv, .float .f64 na, .float .f64 nb, .float .f64 nc]] (by kernel_rfl) (eg34 _ _) ?_
      refine (t34 x v a b' c nx nv na nb nc _).mono ?_
      rintro e w6 ⟨rfl, HU5⟩
      have HU6 : Hid (Up wr w6) := (Up.drew wr).trans HU5.out
      rw [HSm.out]
      refine ⟨_, rfl, HU6.out, ?_⟩
      refine OrdS.ends ?_
      simp only [List.drop_succ_cons, List.drop_zero]
      go_wp2
      go_roundw
      case rel => exact ⟨i + 1, by omega, by go_num, HU.out.trans HU6.out⟩
      case measure => simp [intOf]; omega
    · obtain rfl : i = n := by omega
      go_wp2
      go_ret
      exact ⟨rfl, HU⟩
end Go.Proofs.Ytcgbmcnefolgcaa

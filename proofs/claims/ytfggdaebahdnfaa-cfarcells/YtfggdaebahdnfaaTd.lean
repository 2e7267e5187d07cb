/- CfarCells: the walk. -/
import Derived.Test.YtfggdaebahdnfaaTc
import Derived.Test.YtfggdaebahdnfaaRh
namespace Go.Proofs.Ytfggdaebahdnfaa
open Go.ChangeShapes Go.WideShapes Go.ChangeAt Go.RowKit Go.Fl Go.Sort Ieee
attribute [local go_sem] run_store_float run_store_func call35 call46 run_neg fold_eq fold_ne fold_lt fold_gt abs_eq

theorem t21k {x y : Nat} (h : ab x = ab y) (w : World) : Calls Try.prog 21 #[.float .f64 x, .float .f64 y] w fun e w' => e = .returned (.bool true) ∧ w' = w :=
  (t21 x y w).mono fun _ _ ⟨h1, h2⟩ => ⟨by rw [h1, h]; simp, h2⟩
/-- What a level leaves where the look fits. -/
def VL (w : World) (v : Option Nat) (e : Ending) (w' : World) : Prop := ∃ r, e = .returned (.tuple #[.float .f64 r, .int .i64 0]) ∧ Hid (ab r = v) ∧ Hid (Up w w')
theorem lev_fit {w : World} {p : Option Addr} {n cap G T M K : Nat} {d : Array Nat} {way : Int} (h : SV w p n cap d) (h1 : -128 ≤ way) (h2 : way ≤ 127) (hn : n ≤ 16384) (hm : mayF G T M = true) (hK : K < n) :
    Calls Try.prog 11 #[.slice p n cap, .int .i64 K, .int .i8 way, .int .i64 G, .int .i64 T, .int .i64 M] w (VL w (lvD way G T M d K)) := by
  refine (t11 G T M K h1 h2 h).mono ?_
  rintro e w' ⟨r, he, hr, hu⟩
  have e1 : levE d.size G T M K = 0 := by
    unfold levE
    rw [h.len, if_neg (by omega), if_neg (by rw [hm]; simp; omega)]
  have hr' := hr.out
  unfold levR at hr'
  rw [e1, if_pos rfl] at hr'
  rw [e1] at he
  simp only [Int.toNat_natCast] at hr'
  exact ⟨r, he, hr', hu⟩
theorem and_small (a : Int) : 0 ≤ bits BinOp.and IntKind.i64 a 65535 ∧ bits BinOp.and IntKind.i64 a 65535 ≤ 65535 := by
  have e : bits BinOp.and IntKind.i64 a 65535 = IntKind.i64.wrap ((BitVec.ofInt 64 a &&& BitVec.ofInt 64 ((65535 : Nat) : Int)).toNat : Int) := rfl
  rw [e, BitVec.toNat_and, BitVec.ofInt_natCast (n := 65535), BitVec.toNat_ofNat]
  have : (BitVec.ofInt 64 a).toNat &&& 65535 % 2 ^ 64 ≤ 65535 := Nat.and_le_right
  rw [IntKind.wrap_i64]
  omega
theorem eg20 (args : Array Value) (w : World) : (callFunc 20 args).run Try.prog w = .ok (.enter 20 args) w := enters Try.func20 (by kernel_rfl) (by kernel_rfl) _ _
theorem eg11 (args : Array Value) (w : World) : (callFunc 11 args).run Try.prog w = .ok (.enter 11 args) w := enters Try.func11 (by kernel_rfl) (by kernel_rfl) _ _
theorem eg23 (args : Array Value) (w : World) : (callFunc 23 args).run Try.prog w = .ok (.enter 23 args) w := enters Try.func23 (by kernel_rfl) (by kernel_rfl) _ _
set_option maxRecDepth 20000 in
set_option maxHeartbeats 8000000 in
theorem t5 {w : World} {p q : Option Addr} {n cap no co x : Nat} {d o : Array Nat} {way : Int} (g t m k e5 a5 b5 : Int) (h1 : -128 ≤ way) (h2 : way ≤ 127) (h : SV w p n cap d) (ho : SV w q no co o) (hn : n < 9223372036854775807) (hno : no < 9223372036854775808) :
    Calls Try.prog 5 #[.slice p n cap, .agg #[.int .i8 way, .int .i64 g, .int .i64 t, .int .i64 m, .float .f64 x], .int .i64 k, .slice q no co, .int .i64 e5, .int .i64 a5, .int .i64 b5] w (TU w) := by
  have H : Hid (SV w p n cap d) := h
  have O : Hid (SV w q no co o) := ho
  clear h ho
  obtain ⟨b, hb⟩ : ∃ b, fitsB n g t m x = b := ⟨_, rfl⟩
  have HB : Hid _ := hb
  clear hb
  cases b
  · go_enter Try.func5, Try.ntmps5
    go_wp2_with (first
      | (go_at_call 9; (with_reducible refine (t9 (w.alloc _)).mono ?_); rintro e w1 ⟨rfl, HU1⟩; (obtain ⟨l0, l1, l2, l3, l4⟩ := (LK.new w way g t m x).up HU1.out))
      | (go_at_call 19; (with_reducible refine (t19c (by omega) HB.out).mono ?_); rintro e w2 ⟨rfl, HU2⟩)
      | (go_at_call 9; (with_reducible refine (t9 w2).mono ?_); rintro e w3 ⟨rfl, HU3⟩))
    go_ret
    exact ⟨rfl, (((Up.alloc _ _).trans HU1.out).trans HU2.out).trans HU3.out⟩
  by_cases hk : k < 0 ∨ (n : Int) ≤ k
  · by_cases hk0 : k < 0
    · go_enter Try.func5, Try.ntmps5
      go_wp2_with (first
        | (go_at_call 9; (with_reducible refine (t9 (w.alloc _)).mono ?_); rintro e w1 ⟨rfl, HU1⟩; (obtain ⟨l0, l1, l2, l3, l4⟩ := (LK.new w way g t m x).up HU1.out))
        | (go_at_call 19; (with_reducible refine (t19c (by omega) HB.out).mono ?_); rintro e w2 ⟨rfl, HU2⟩)
        | (go_at_call 9; (with_reducible refine (t9 w2).mono ?_); rintro e w3 ⟨rfl, HU3⟩))
      go_ret
      exact ⟨rfl, (((Up.alloc _ _).trans HU1.out).trans HU2.out).trans HU3.out⟩
    · have hk1 : (n : Int) ≤ k := by omega
      go_enter Try.func5, Try.ntmps5
      go_wp2_with (first
        | (go_at_call 9; (with_reducible refine (t9 (w.alloc _)).mono ?_); rintro e w1 ⟨rfl, HU1⟩; (obtain ⟨l0, l1, l2, l3, l4⟩ := (LK.new w way g t m x).up HU1.out))
        | (go_at_call 19; (with_reducible refine (t19c (by omega) HB.out).mono ?_); rintro e w2 ⟨rfl, HU2⟩)
        | (go_at_call 9; (with_reducible refine (t9 w2).mono ?_); rintro e w3 ⟨rfl, HU3⟩))
      go_ret
      exact ⟨rfl, (((Up.alloc _ _).trans HU1.out).trans HU2.out).trans HU3.out⟩
  obtain ⟨hz, hm, fx⟩ := fits_of HB.out
  have FX : Hid (Fnt x) := fx
  have HM := hm
  simp only [mayF, Bool.and_eq_true, decide_eq_true_eq] at hm
  obtain ⟨⟨⟨g0, g1⟩, t0, t1⟩, m0, m1⟩ := hm
  obtain ⟨G, rfl⟩ := Int.eq_ofNat_of_zero_le g0
  obtain ⟨T, rfl⟩ := Int.eq_ofNat_of_zero_le (show 0 ≤ t by omega)
  obtain ⟨M, rfl⟩ := Int.eq_ofNat_of_zero_le m0
  obtain ⟨K, rfl⟩ := Int.eq_ofNat_of_zero_le (show 0 ≤ k by omega)
  have hK : K < n := by omega
  have k1 : (K : Int) < (n : Int) := by omega
  have HG : Hid (G ≤ 16384 ∧ T ≤ 16384 ∧ 0 < T) := by exact ⟨by omega, by omega, by omega⟩
  have C11 : Hid (∀ W q c d', SV W q n c d' → Calls Try.prog 11 #[.slice q n c, .int .i64 K, .int .i8 way, .int .i64 G, .int .i64 T, .int .i64 M] W (VL W (lvD way G T M d' K))) := fun W q c d' hv => lev_fit hv h1 h2 hz HM hK
  have C15 : Hid (∀ W q c d', SV W q n c d' → Calls Try.prog 15 #[.slice q n c, .int .i8 way, .int .i64 G, .int .i64 T, .int .i64 M, .float .f64 x] W (LF W n (linL way G T M (ab x) d'))) := fun W q c d' hv => by
    have := lin_fit (way := way) (g := G) (t := T) (m := M) (x := x) hv h1 h2 (fits_lin HB.out)
    simpa using this
  have C20 : Hid (∀ W, Up w W → Calls Try.prog 20 #[.slice p n cap, .slice q no co, .int .i64 K, .agg #[.int .i8 way, .int .i64 G, .int .i64 T, .int .i64 M, .float .f64 x]] W (CH W n K G T d)) := fun W hu => t20 (H.out.up hu) (O.out.up hu) hz hno hK (by omega) (by omega)
  clear g0 g1 t0 t1 m0 m1 hk HM fx
  go_enter Try.func5, Try.ntmps5
  go_wp2_with (first
    | (go_at_call 9; (with_reducible refine (t9 (w.alloc _)).mono ?_); rintro e w1 ⟨rfl, HU1⟩; (have K1 : Hid (LK w.heap.size way G T M x w1) := (LK.new w way G T M x).up HU1.out); (obtain ⟨l0, l1, l2, l3, l4⟩ := K1.out); (have U1 : Hid (Up w w1) := (Up.alloc _ _).trans HU1.out); clear HU1)
    | (go_at_call 19; (with_reducible refine (t19c (by omega) HB.out).mono ?_); rintro e w2 ⟨rfl, HU2⟩; clear l0 l1 l2 l3 l4; (have K2 : Hid (LK w.heap.size way G T M x w2) := K1.out.up HU2.out); (obtain ⟨l0, l1, l2, l3, l4⟩ := K2.out); (have U2 : Hid (Up w w2) := U1.out.trans HU2.out); clear HU2 K1 U1)
    | (go_at_call 11; (with_reducible refine (C11.out _ _ _ d (H.out.up U2.out)).mono ?_); rintro e w3 ⟨r0, rfl, R0, HU3⟩; clear l0 l1 l2 l3 l4; (have K3 : Hid (LK w.heap.size way G T M x w3) := K2.out.up HU3.out); (have U3 : Hid (Up w w3) := U2.out.trans HU3.out); clear HU3 K2 U2))
  refine wp_region_ord 19 [(0, none), (1, none), (2, none), (3, some false), (5, none), (6, none), (7, some false), (8, none), (9, some false), (10, none), (11, some false), (12, none), (13, some false), (4, some true), (14, some true), (15, none), (16, none), (17, none), (18, none)] (LK w.heap.size way G T M x) (by kernel_rfl) (by decide) rfl (by kernel_rfl) (fun _ _ d _ _ h => by cases d <;> exact h) (by exact K3.out.up (Up.drewN _ 1)) ?_
  refine ⟨_, .slice p n cap, some 65, rfl, rfl, Or.inl ⟨rfl, fun w' hS => ?_⟩, ?_⟩
  · go_simp
  refine ⟨_, .slice q no co, some 66, rfl, rfl, Or.inl ⟨rfl, fun w' hS => ?_⟩, ?_⟩
  · go_simp
  refine ⟨_, .int .i64 K, some 67, rfl, rfl, Or.inl ⟨rfl, fun w' hS => ?_⟩, ?_⟩
  · go_simp
  refine ⟨_, .agg #[.int .i8 way, .int .i64 G, .int .i64 T, .int .i64 M, .float .f64 x], some 68, rfl, rfl, Or.inl ⟨rfl, fun w' hS => ?_⟩, ?_⟩
  · obtain ⟨l0, l1, l2, l3, l4⟩ := hS
    go_simp
  refine ⟨_, .int .i64 K, some 70, rfl, rfl, Or.inl ⟨rfl, fun w' hS => ?_⟩, ?_⟩
  · go_simp
  refine ⟨_, .pointer (some ⟨w.heap.size, 0, none⟩), some 71, rfl, rfl, Or.inl ⟨rfl, fun w' hS => ?_⟩, ?_⟩
  · go_simp
  refine ⟨_, .int .i8 way, some 72, rfl, rfl, Or.inl ⟨rfl, fun w' hS => ?_⟩, ?_⟩
  · obtain ⟨l0, l1, l2, l3, l4⟩ := hS
    go_simp
  refine ⟨_, .pointer (some ⟨w.heap.size, 1, none⟩), some 73, rfl, rfl, Or.inl ⟨rfl, fun w' hS => ?_⟩, ?_⟩
  · go_simp
  refine ⟨_, .int .i64 G, some 74, rfl, rfl, Or.inl ⟨rfl, fun w' hS => ?_⟩, ?_⟩
  · obtain ⟨l0, l1, l2, l3, l4⟩ := hS
    go_simp
  refine ⟨_, .pointer (some ⟨w.heap.size, 2, none⟩), some 75, rfl, rfl, Or.inl ⟨rfl, fun w' hS => ?_⟩, ?_⟩
  · go_simp
  refine ⟨_, .int .i64 T, some 76, rfl, rfl, Or.inl ⟨rfl, fun w' hS => ?_⟩, ?_⟩
  · obtain ⟨l0, l1, l2, l3, l4⟩ := hS
    go_simp
  refine ⟨_, .pointer (some ⟨w.heap.size, 3, none⟩), some 77, rfl, rfl, Or.inl ⟨rfl, fun w' hS => ?_⟩, ?_⟩
  · go_simp
  refine ⟨_, .int .i64 M, some 78, rfl, rfl, Or.inl ⟨rfl, fun w' hS => ?_⟩, ?_⟩
  · obtain ⟨l0, l1, l2, l3, l4⟩ := hS
    go_simp
  refine wpOp_call (f := 20) rfl rfl rfl #[.slice p n cap, .slice q no co, .int .i64 K, .agg #[.int .i8 way, .int .i64 G, .int .i64 T, .int .i64 M, .float .f64 x]] (by kernel_rfl) (eg20 _ _) ?_
  refine (C20.out _ (U3.out.trans (Up.drewN _ 1))).mono ?_
  rintro e w4 ⟨p4, c4, d4, rfl, S4, A4, HU4⟩
  have U4 : Hid (Up w w4) := (U3.out.trans (Up.drewN _ 1)).trans HU4.out
  have K4 : Hid (LK w.heap.size way G T M x w4) := (K3.out.up (Up.drewN _ 1)).up HU4.out
  clear HU4 U3 K3 C20
  refine ⟨_, rfl, K4.out, ?_⟩
  refine wpOp_call (f := 11) rfl rfl rfl #[.slice p4 n c4, .int .i64 K, .int .i8 way, .int .i64 G, .int .i64 T, .int .i64 M] (by kernel_rfl) (eg11 _ _) ?_
  refine (C11.out _ _ _ _ S4.out).mono ?_
  rintro e w5 ⟨r1, rfl, R1, HU5⟩
  have U5 : Hid (Up w w5) := U4.out.trans HU5.out
  have K5 : Hid (LK w.heap.size way G T M x w5) := K4.out.up HU5.out
  have E1 : Hid (ab r0 = ab r1) := by show _ = _; rw [R0.out, R1.out, A4.out.level]
  clear HU5 U4 K4 S4 A4 R1
  refine ⟨_, rfl, K5.out, ?_⟩
  refine ⟨_, .tuple #[.float .f64 r1, .int .i64 0], some 64, rfl, rfl, Or.inl ⟨rfl, fun w' hS => ?_⟩, ?_⟩
  · go_simp
  refine ⟨_, .float .f64 r1, some 80, rfl, rfl, Or.inl ⟨rfl, fun w' hS => ?_⟩, ?_⟩
  · go_simp
  refine ⟨_, .int .i64 0, some 81, rfl, rfl, Or.inl ⟨rfl, fun w' hS => ?_⟩, ?_⟩
  · go_simp
  refine ⟨_, .float .f64 r1, some 17, rfl, rfl, Or.inl ⟨rfl, fun w' hS => ?_⟩, ?_⟩
  · go_simp
  simp only [OrdW, List.drop_succ_cons, List.drop_zero, Act.put, List.setIfInBounds_toArray, List.set_cons_succ, List.set_cons_zero]
  obtain ⟨l0, l1, l2, l3, l4⟩ := K5.out
  go_upto_if 96 with (go_at_call 21; (with_reducible refine (t21k E1.out _).mono ?_); rintro e w' ⟨rfl, hw⟩; subst w')
  clear E1 l0 l1 l2 l3 l4
  go_cut [17, 18, 19, 20, 21] from 97 to 164 (fun _ _ _ _ _ wx => Hid (Up w5 wx))
  case first =>
    by_cases h3 : way = 3
    rotate_left
    · have b3 : (way == 3) = false := by rw [beq_eq_false_iff_ne]; exact h3
      go_wp2
      go_meet
      case rel => exact Up.refl _
    subst h3
    obtain ⟨A, hA⟩ : ∃ A, bits BinOp.and IntKind.i64 a5 65535 = A := ⟨_, rfl⟩
    obtain ⟨B, hB⟩ : ∃ B, bits BinOp.and IntKind.i64 b5 65535 = B := ⟨_, rfl⟩
    obtain ⟨A0, A1⟩ := hA ▸ and_small a5
    obtain ⟨B0, B1⟩ := hB ▸ and_small b5
    obtain ⟨hG1, hT1, hT0⟩ := HG.out
    have tz : ((T : Int) == 0) = false := by rw [beq_eq_false_iff_ne]; omega
    obtain ⟨ra, hra, ra1⟩ : ∃ ra : Nat, A.tmod T = (ra : Int) ∧ ra < T := by
      refine ⟨(A.tmod T).toNat, ?_, ?_⟩
      · have := Int.tmod_nonneg (T : Int) A0; omega
      · have := Int.tmod_lt_of_pos A (show 0 < (T : Int) by omega); have := Int.tmod_nonneg (T : Int) A0; omega
    obtain ⟨rb, hrb, rb1⟩ : ∃ rb : Nat, B.tmod T = (rb : Int) ∧ rb < T := by
      refine ⟨(B.tmod T).toNat, ?_, ?_⟩
      · have := Int.tmod_nonneg (T : Int) B0; omega
      · have := Int.tmod_lt_of_pos B (show 0 < (T : Int) by omega); have := Int.tmod_nonneg (T : Int) B0; omega
    obtain ⟨P, hP⟩ : ∃ P, K + G + 1 + ra = P := ⟨_, rfl⟩
    obtain ⟨Q, hQ⟩ : ∃ Q : Int, (K : Int) - G - 1 - rb = Q := ⟨_, rfl⟩
    obtain ⟨l0, l1, l2, l3, l4⟩ := K5.out
    go_wp2_with (at_builtin; refine wpList_app_sv rfl _ _ rfl w5.heap.size 0 0 none p n cap [] d rfl rfl (World.ownsRow_nil _ _ _ _) (H.out.up U5.out) (by omega) (Nat.le_refl _) ?_; intro p1 c1 w6 hown hgr)
    have HO : Hid (w6.drew.ownsRow w5.heap.size 24 1 (.slice p1 n c1) n (d.toList.map fe)) := by rw [Nat.zero_add] at hown; exact hown
    have HU : Hid (Up w5 w6.drew) := (grown_up (Up.refl _) hgr (fun j hj => by cases hj)).trans (Up.drewN _ 1)
    have K6 : Hid (LK w.heap.size 3 G T M x w6.drew) := K5.out.up HU.out
    clear hown hgr l0 l1 l2 l3 l4
    refine wp_region_ord 23 [(0, none), (1, none), (2, some false), (3, none), (4, none), (5, none), (6, none), (7, none), (8, some false), (9, none), (10, none), (11, none), (12, none), (13, some false), (14, none), (15, none), (16, none), (17, none), (18, none), (19, some false), (20, none), (21, none), (22, none)] (LK w.heap.size 3 G T M x) (by kernel_rfl) (by decide) rfl (by kernel_rfl) (fun _ _ d _ _ h => by cases d <;> exact h) (by exact K6.out) ?_
    refine ⟨_, .int .i64 K, some 99, rfl, rfl, Or.inl ⟨rfl, fun w' hS => ?_⟩, ?_⟩
    · go_simp
    refine ⟨_, .pointer (some ⟨w.heap.size, 1, none⟩), some 100, rfl, rfl, Or.inl ⟨rfl, fun w' hS => ?_⟩, ?_⟩
    · go_simp
    refine ⟨_, .int .i64 G, some 101, rfl, rfl, Or.inl ⟨rfl, fun w' hS => ?_⟩, ?_⟩
    · obtain ⟨l0, l1, l2, l3, l4⟩ := hS
      go_simp
    refine ⟨_, .int .i64 ((K : Int) + G), some 102, rfl, rfl, Or.inl ⟨rfl, fun w' hS => ?_⟩, ?_⟩
    · go_simp
      rw [IntKind.wrap_i64]; omega
    refine ⟨_, .int .i64 ((K : Int) + G + 1), some 103, rfl, rfl, Or.inl ⟨rfl, fun w' hS => ?_⟩, ?_⟩
    · go_simp
      rw [IntKind.wrap_i64]; omega
    refine ⟨_, .int .i64 a5, some 104, rfl, rfl, Or.inl ⟨rfl, fun w' hS => ?_⟩, ?_⟩
    · go_simp
    refine ⟨_, .int .i64 A, some 105, rfl, rfl, Or.inl ⟨rfl, fun w' hS => ?_⟩, ?_⟩
    · go_simp
    refine ⟨_, .pointer (some ⟨w.heap.size, 2, none⟩), some 106, rfl, rfl, Or.inl ⟨rfl, fun w' hS => ?_⟩, ?_⟩
    · go_simp
    refine ⟨_, .int .i64 T, some 107, rfl, rfl, Or.inl ⟨rfl, fun w' hS => ?_⟩, ?_⟩
    · obtain ⟨l0, l1, l2, l3, l4⟩ := hS
      go_simp
    refine ⟨_, .int .i64 ra, some 108, rfl, rfl, Or.inl ⟨rfl, fun w' hS => ?_⟩, ?_⟩
    · go_simp
      omega
    refine ⟨_, .int .i64 P, some 109, rfl, rfl, Or.inl ⟨rfl, fun w' hS => ?_⟩, ?_⟩
    · go_simp
      rw [IntKind.wrap_i64]; omega
    refine ⟨_, .int .i64 K, some 110, rfl, rfl, Or.inl ⟨rfl, fun w' hS => ?_⟩, ?_⟩
    · go_simp
    refine ⟨_, .pointer (some ⟨w.heap.size, 1, none⟩), some 111, rfl, rfl, Or.inl ⟨rfl, fun w' hS => ?_⟩, ?_⟩
    · go_simp
    refine ⟨_, .int .i64 G, some 112, rfl, rfl, Or.inl ⟨rfl, fun w' hS => ?_⟩, ?_⟩
    · obtain ⟨l0, l1, l2, l3, l4⟩ := hS
      go_simp
    refine ⟨_, .int .i64 ((K : Int) - G), some 113, rfl, rfl, Or.inl ⟨rfl, fun w' hS => ?_⟩, ?_⟩
    · go_simp
      rw [IntKind.wrap_i64]; omega
    refine ⟨_, .int .i64 ((K : Int) - G - 1), some 114, rfl, rfl, Or.inl ⟨rfl, fun w' hS => ?_⟩, ?_⟩
    · go_simp
      rw [IntKind.wrap_i64]; omega
    refine ⟨_, .int .i64 b5, some 115, rfl, rfl, Or.inl ⟨rfl, fun w' hS => ?_⟩, ?_⟩
    · go_simp
    refine ⟨_, .int .i64 B, some 116, rfl, rfl, Or.inl ⟨rfl, fun w' hS => ?_⟩, ?_⟩
    · go_simp
    refine ⟨_, .pointer (some ⟨w.heap.size, 2, none⟩), some 117, rfl, rfl, Or.inl ⟨rfl, fun w' hS => ?_⟩, ?_⟩
    · go_simp
    refine ⟨_, .int .i64 T, some 118, rfl, rfl, Or.inl ⟨rfl, fun w' hS => ?_⟩, ?_⟩
    · obtain ⟨l0, l1, l2, l3, l4⟩ := hS
      go_simp
    refine ⟨_, .int .i64 rb, some 119, rfl, rfl, Or.inl ⟨rfl, fun w' hS => ?_⟩, ?_⟩
    · go_simp
      omega
    refine ⟨_, .int .i64 Q, some 120, rfl, rfl, Or.inl ⟨rfl, fun w' hS => ?_⟩, ?_⟩
    · go_simp
      rw [IntKind.wrap_i64]; omega
    refine ⟨_, .int .i64 P, some 20, rfl, rfl, Or.inl ⟨rfl, fun w' hS => ?_⟩, ?_⟩
    · go_simp
    simp only [OrdW, List.drop_succ_cons, List.drop_zero, Act.put, List.setIfInBounds_toArray, List.set_cons_succ, List.set_cons_zero]
    have LV : Hid (lvD 3 G T M d K = ab r0) := R0.out.symm
    clear hA hB A0 A1 B0 B1 hra hrb
    generalize w6.drew = w7 at *
    by_cases hs : P < n ∧ 0 ≤ Q
    rotate_left
    · by_cases hs1 : P < n
      · have z1 : (P : Int) < (n : Int) := by omega
        have z2 : ¬ 0 ≤ Q := fun h => hs ⟨hs1, h⟩
        go_wp2
        go_meet
        case rel => exact HU.out
      · have z1 : ¬ (P : Int) < (n : Int) := by omega
        go_wp2
        go_meet
        case rel => exact HU.out
    obtain ⟨hPn, hQ0⟩ := hs
    obtain ⟨Q, rfl⟩ := Int.eq_ofNat_of_zero_le hQ0
    have z1 : (P : Int) < (n : Int) := by omega
    have z3 : (Q : Int) < (n : Int) := by omega
    have hPQ : P ≠ Q := by omega
    have hQn : Q < n := by omega
    have SW : Hid (lvD 3 G T M ((d.set! P d[Q]!).set! Q d[P]!) K = lvD 3 G T M d K) := lv_swap (by rw [H.out.len]; exact hK) (by rw [H.out.len]; exact hPn) (by omega) (by omega) (by omega) (by omega)
    obtain ⟨p', c', e1, hp1⟩ := own_form HO.out
    obtain ⟨g1, hg1⟩ := hp1 (by omega)
    simp only [Value.slice.injEq] at e1
    have hp2 := e1.1.trans hg1
    subst hp2
    clear e1 hg1 hp1
    have cell : ∀ j, j < n → w7.cell? ⟨g1, j, none⟩ = some (.float .f64 d[j]!) := fun j hj => by
      rw [World.ownsRow.cellAt HO.out j (by omega)]
      have hs : j < d.size := by rw [H.out.len]; exact hj
      simp [getElem!_pos d j hs, Array.getElem?_eq_getElem hs]
    have cP := cell P hPn
    have cQ := cell Q hQn
    have fP := World.ownsRow.frozenAt HO.out P
    have fQ := World.ownsRow.frozenAt HO.out Q
    obtain ⟨vP, hvP⟩ : ∃ v, d[P]! = v := ⟨_, rfl⟩
    obtain ⟨vQ, hvQ⟩ : ∃ v, d[Q]! = v := ⟨_, rfl⟩
    have FP : Hid (vP < 2 ^ 64) := hvP ▸ H.out.fit P (by rw [H.out.len]; exact hPn)
    have FQ : Hid (vQ < 2 ^ 64) := hvQ ▸ H.out.fit Q (by rw [H.out.len]; exact hQn)
    rw [hvP] at cP SW
    rw [hvQ] at cQ SW
    have HS : Hid (SV ((w7.setCell ⟨g1, P, none⟩ (.float .f64 vQ)).setCell ⟨g1, Q, none⟩ (.float .f64 vP)) (some ⟨g1, 0, none⟩) n c1 ((d.set! P vQ).set! Q vP) ∧ Up w5 ((w7.setCell ⟨g1, P, none⟩ (.float .f64 vQ)).setCell ⟨g1, Q, none⟩ (.float .f64 vP))) := by
      obtain ⟨s1, s2⟩ := World.ownsRow.stored HO.out P (.float .f64 vQ)
      obtain ⟨s3, s4⟩ := World.ownsRow.stored s1 Q (.float .f64 vP)
      refine ⟨sv_own (b := w5.heap.size) ?_ (by simp [H.out.len]) (fit_put (fit_put H.out.fit FQ.out) FP.out), But.up s4 (But.up s2 HU.out (World.ownsRow.lt HO.out g1 rfl).1) (World.ownsRow.lt HO.out g1 rfl).1⟩
      rw [Array.set!_eq_setIfInBounds, Array.set!_eq_setIfInBounds, Array.toList_setIfInBounds, Array.toList_setIfInBounds, List.map_set, List.map_set]
      exact s3
    clear cell hvP hvQ hP hQ
    go_wp2
    go_big_region
    all_goals
      generalize (w7.setCell ⟨g1, P, none⟩ (.float .f64 vQ)).setCell ⟨g1, Q, none⟩ (.float .f64 vP) = w8 at *
      obtain ⟨l0, l1, l2, l3, l4⟩ := K5.out.up HS.out.2
      have S8 : Hid (SV w8.drew (some ⟨g1, 0, none⟩) n c1 ((d.set! P vQ).set! Q vP)) := HS.out.1.up (Up.drewN _ 1)
      go_wp2_with (first
        | (go_at_call 11; (with_reducible refine (C11.out _ _ _ _ S8.out).mono ?_); rintro e w9 ⟨r2, rfl, R2, HU9⟩; (have E2 : Hid (ab r0 = ab r2) := R0.out.trans (SW.out.symm.trans R2.out.symm)); clear l0 l1 l2 l3 l4)
        | (go_at_call 21; (with_reducible refine (t21k E2.out _).mono ?_); rintro e w' ⟨rfl, hw⟩; subst w'))
      go_meet
      case rel => exact (HS.out.2.trans (Up.drewN _ 1)).trans HU9.out
  case rest =>
    have U6 : Hid (Up w wc) := U5.out.trans hcut.out
    have K6 : Hid (LK w.heap.size way G T M x wc) := K5.out.up hcut.out
    clear hcut U5 K5
    obtain ⟨bw, hbw⟩ : ∃ bw, allB tameB d n = bw := ⟨_, rfl⟩
    have CA : Hid (∀ W, SV W p n cap d → Calls Try.prog 22 #[.slice p n cap, .func (.func 23) #[] #[]] W (BD W bw)) := fun W hv => hbw ▸ t22 hv hn eg23 t23
    have HBW : Hid _ := hbw
    clear hbw
    obtain ⟨bt, hbt⟩ : ∃ bt, tameB x = bt := ⟨_, rfl⟩
    have CT : Hid (∀ W, Calls Try.prog 23 #[.float .f64 x] W (BD W bt)) := fun W => hbt ▸ t23 x W
    have HBT : Hid _ := hbt
    clear hbt
    cases bw
    · go_wp2_with (go_at_call 22; (with_reducible refine (CA.out _ (H.out.up U6.out)).mono ?_); rintro e w7 ⟨rfl, m7, hw7⟩; (have U7 : Hid (Up w w7) := hw7 ▸ U6.out.trans (Up.drewN _ _)); clear hw7)
      go_ret
      exact ⟨rfl, U7.out⟩
    cases bt
    · go_wp2_with (first
        | (go_at_call 22; (with_reducible refine (CA.out _ (H.out.up U6.out)).mono ?_); rintro e w7 ⟨rfl, m7, hw7⟩; (have U7 : Hid (Up w w7) := hw7 ▸ U6.out.trans (Up.drewN _ _)); (obtain ⟨l0, l1, l2, l3, l4⟩ := hw7 ▸ K6.out.up (Up.drewN _ m7)); clear hw7)
        | (go_at_call 23; (with_reducible refine (CT.out _).mono ?_); rintro e w8 ⟨rfl, m8, hw8⟩; (have U8 : Hid (Up w w8) := hw8 ▸ U7.out.trans (Up.drewN _ _)); clear hw8))
      go_ret
      exact ⟨rfl, U8.out⟩
    by_cases hp1 : e5 < -100
    · go_wp2_with (first
        | (go_at_call 22; (with_reducible refine (CA.out _ (H.out.up U6.out)).mono ?_); rintro e w7 ⟨rfl, m7, hw7⟩; (have U7 : Hid (Up w w7) := hw7 ▸ U6.out.trans (Up.drewN _ _)); (obtain ⟨l0, l1, l2, l3, l4⟩ := hw7 ▸ K6.out.up (Up.drewN _ m7)); clear hw7)
        | (go_at_call 23; (with_reducible refine (CT.out _).mono ?_); rintro e w8 ⟨rfl, m8, hw8⟩; (have U8 : Hid (Up w w8) := hw8 ▸ U7.out.trans (Up.drewN _ _)); clear hw8))
      go_ret
      exact ⟨rfl, U8.out⟩
    by_cases hp2 : 100 < e5
    · go_wp2_with (first
        | (go_at_call 22; (with_reducible refine (CA.out _ (H.out.up U6.out)).mono ?_); rintro e w7 ⟨rfl, m7, hw7⟩; (have U7 : Hid (Up w w7) := hw7 ▸ U6.out.trans (Up.drewN _ _)); (obtain ⟨l0, l1, l2, l3, l4⟩ := hw7 ▸ K6.out.up (Up.drewN _ m7)); clear hw7)
        | (go_at_call 23; (with_reducible refine (CT.out _).mono ?_); rintro e w8 ⟨rfl, m8, hw8⟩; (have U8 : Hid (Up w w8) := hw8 ▸ U7.out.trans (Up.drewN _ _)); clear hw8))
      go_ret
      exact ⟨rfl, U8.out⟩
    have C24 : Hid (∀ W, Calls Try.prog 24 #[.float .f64 4607182418800017408, .int .i64 e5] W (LX W e5)) := fun W => t24 (by omega) (by omega) W
    obtain ⟨i0, hi0, hz0, hz1, hz2⟩ := info_parts info23
    go_wp2_with (first
      | (go_at_call 22; (with_reducible refine (CA.out _ (H.out.up U6.out)).mono ?_); rintro e w7 ⟨rfl, m7, hw7⟩; (have U7 : Hid (Up w w7) := hw7 ▸ U6.out.trans (Up.drewN _ _)); (have K7 : Hid (LK w.heap.size way G T M x w7) := hw7 ▸ K6.out.up (Up.drewN _ m7)); (obtain ⟨l0, l1, l2, l3, l4⟩ := K7.out); clear hw7 U6 K6)
      | (go_at_call 23; (with_reducible refine (CT.out _).mono ?_); rintro e w8 ⟨rfl, m8, hw8⟩; clear l0 l1 l2 l3 l4; (have U8 : Hid (Up w w8) := hw8 ▸ U7.out.trans (Up.drewN _ _)); (have K8 : Hid (LK w.heap.size way G T M x w8) := hw8 ▸ K7.out.up (Up.drewN _ m8)); clear hw8 U7 K7)
      | (go_at_call 24; (with_reducible refine (C24.out _).mono ?_); rintro e w9 ⟨s9, rfl, HU9, F9, V9⟩; (have U9 : Hid (Up w w9) := U8.out.trans HU9.out); (have K9 : Hid (LK w.heap.size way G T M x w9) := K8.out.up HU9.out); clear HU9 U8 K8))
    clear CA CT C24
    have HT : Hid (∀ j, j < n → Fnt d[j]! ∧ Md (-300) 300 (val d[j]!)) := fun j hj => tame_md (allB_true HBW.out hj)
    have HX : Hid (Md (-300) 300 (val x)) := (tame_md HBT.out).2
    have HE5 : Hid (-100 ≤ e5 ∧ e5 ≤ 100) := by exact ⟨by omega, by omega⟩
    clear HBW HBT
    go_loopw [23, 25, 186] (fun v _ vi wr => ∃ (i c : Nat) (p' : Option Addr) (L : List Nat), v = .slice p' i c ∧ vi = .int .i64 i ∧ i ≤ n ∧ Hid (L.length = i ∧ ∀ j, j < i → Tm e5 d[j]! L[j]!) ∧ Hid (wr.ownsRow w9.heap.size 24 1 (.slice p' i c) i (L.map fe)) ∧ Hid (Up w9 wr)) (fun _ _ vi _ => n - (intOf vi).toNat)
    case atStart => exact ⟨0, 0, none, [], rfl, rfl, by omega, ⟨rfl, fun j hj => by omega⟩, World.ownsRow_nil _ _ _ _, Up.refl _⟩
    case round =>
      obtain ⟨i, c, p', L, rfl, rfl, hin, HL, HW, HUW⟩ := hrel
      rename World => W
      by_cases hlt : i < n
      · obtain ⟨blk, off, hpe, hr⟩ := H.out.rd (by omega)
        subst hpe
        obtain ⟨y, hy⟩ : ∃ y, d[i]! = y := ⟨_, rfl⟩
        have cy := cell_up (hr i (by rw [H.out.len]; exact hlt)) (U9.out.trans HUW.out)
        rw [hy] at cy
        have HY : Hid _ := hy
        have FY : Hid (y < 2 ^ 64) := hy ▸ H.out.fit i (by rw [H.out.len]; exact hlt)
        have MY : Hid (Fnt y ∧ Md (-300) 300 (val y)) := hy ▸ HT.out i hlt
        clear hy hr
        have hl3 : (i : Int) < (n : Int) := by omega
        go_wp2_with (first
          | ((with_reducible refine upon_fl (by simp) ?_); intro r2 k2 hr2; (have HU5 : Hid (Up w9 (W.drewN k2)) := HUW.out.trans (Up.drewN _ _)); (have hown : (W.drewN k2).ownsRow w9.heap.size 24 1 (.slice p' i c) i (L.map fe) := owns_up HW.out (Up.drewN _ _)); (have sz : w9.heap.size ≤ (W.drewN k2).heap.size := RowKit.Below.size HU5.out); clear cy; generalize W.drewN k2 = w10 at *)
          | (at_builtin; refine wpList_append_own _ rfl _ _ 22 rfl w9.heap.size 24 i0 (.float .f64 0) 1 8 Try.underlying22 hi0 hz0 hz1 hz2 rfl (by decide) _ _ _ rfl (hown.alloc _) ⟨w10.heap.size, 0, none⟩ 1 1 [.float .f64 r2] rfl rfl (cell_new _ _ _) (one_cell _) (by unfold maxLen; omega) (by omega) (by simp; omega) ?_))
        intro v' w11 hown' hgrow _
        have hz : Tm e5 y r2 := by
          obtain ⟨r', e1, e2⟩ := mul_s MY.out.1 FY.out MY.out.2 (by omega) (by omega) F9.out V9.out HE5.out.1 HE5.out.2
          have := hr2.out
          rw [Fnt.ab MY.out.1, Fnt.ab F9.out, e1] at this
          rw [of_ab this]; exact e2
        have R3 := own_push (Nat.le_refl _) hown HU5.out hown' hgrow
        obtain ⟨p2, c2, hv, _⟩ := own_form R3.1
        subst hv
        have HO3 : Hid (w11.ownsRow w9.heap.size 24 1 (.slice p2 (i + 1) c2) (i + 1) ((L ++ [r2]).map fe)) := R3.1
        have HU3 : Hid (Up w9 w11) := R3.2
        have HZ : Hid _ := hz
        clear hown' hgrow hown R3 HW HUW hz
        go_wp2
        go_roundw
        case rel =>
          refine ⟨i + 1, c2, p2, L ++ [r2], rfl, by go_num, by omega, ⟨by rw [List.length_append, HL.out.1]; rfl, fun j hj => ?_⟩, HO3, HU3⟩
          rcases Nat.lt_succ_iff_lt_or_eq.1 hj with q | rfl
          · have := HL.out.2 j q
            rw [getElem!_pos (L ++ [r2]) j (by simp; rw [HL.out.1]; omega), List.getElem_append_left (by rw [HL.out.1]; exact q)]
            rwa [getElem!_pos L j (by rw [HL.out.1]; exact q)] at this
          · rw [getElem!_pos (L ++ [r2]) j (by simp; rw [HL.out.1]; omega), List.getElem_append_right (by rw [HL.out.1]; omega), HY.out]
            simpa using HZ.out
        case measure => simp [intOf]; omega
      · have hie : n = i := by omega
        subst hie
        have HTL : Hid (TL e5 d L.toArray) := by
          refine ⟨by rw [List.size_toArray, HL.out.1, H.out.len], fun j hj => ?_, fun j hj => (HT.out j (by rw [← H.out.len]; exact hj)).2⟩
          have hj' : j < n := by rw [← H.out.len]; exact hj
          have := HL.out.2 j hj'
          rw [getElem!_pos L j (by rw [HL.out.1]; exact hj')] at this
          rw [getElem!_pos L.toArray j (by rw [List.size_toArray, HL.out.1]; exact hj')]
          simpa using this
        obtain ⟨d', hd'⟩ : ∃ d', L.toArray = d' := ⟨_, rfl⟩
        have S1 : Hid (SV W p' n c d') := by
          rw [← hd']
          refine sv_own (b := w9.heap.size) (by simpa using HW.out) (by rw [List.size_toArray]; exact HL.out.1) (fun j hj => ?_)
          exact (HTL.out.tm j (by rw [← HTL.out.size]; exact hj)).ly
        rw [hd'] at HTL
        have U10 : Hid (Up w W) := U9.out.trans HUW.out
        have K10 : Hid (LK w.heap.size way G T M x W) := K9.out.up HUW.out
        obtain ⟨HLV, HEC⟩ : Hid (lvD way G T M d' K = bin .mul (ab r0) (ab s9)) ∧ Hid (∀ k, k < n → echoD way G T M (ab x) d' k = echoD way G T M (ab x) d k) := by
          refine ⟨?_, fun k hk => ?_⟩
          · show _ = _
            rw [(scaled_all (way := way) (G := G) (T := T) (M := M) HTL.out HE5.out.1 HE5.out.2 (by rw [H.out.len]; exact hz) F9.out V9.out (by rw [H.out.len]; exact hK)).1, R0.out, Fnt.ab F9.out]
          · exact (scaled_all (way := way) (G := G) (T := T) (M := M) HTL.out HE5.out.1 HE5.out.2 (by rw [H.out.len]; exact hz) F9.out V9.out (by rw [H.out.len]; exact hk)).2 x FX.out HX.out
        have HD : Hid (d'.size = n) := S1.out.len
        clear HW HUW HL HTL hd' HT HX F9 V9 R0 U9 K9
        obtain ⟨l0, l1, l2, l3, l4⟩ := K10.out
        go_wp2_with (first
          | (go_at_call 11; (with_reducible refine (C11.out _ _ _ d' S1.out).mono ?_); rintro e w12 ⟨r2, rfl, R2, HU12⟩; clear l0 l1 l2 l3 l4; (have U12 : Hid (Up w w12) := U10.out.trans HU12.out); (have K12 : Hid (LK w.heap.size way G T M x w12) := K10.out.up HU12.out); (have S2 : Hid (SV w12 p' n c d') := S1.out.up HU12.out); clear HU12 S1 U10 K10)
          | ((with_reducible refine upon_fl (by simp) ?_); intro r3 k3 hr3; (have E3 : Hid (ab r2 = ab r3) := (R2.out.trans HLV.out).trans hr3.out.symm); (have U13 : Hid (Up w (w12.drewN k3)) := U12.out.trans (Up.drewN _ _)); (have K13 : Hid (LK w.heap.size way G T M x (w12.drewN k3)) := K12.out.up (Up.drewN _ _)); (have S3 : Hid (SV (w12.drewN k3) p' n c d') := S2.out.up (Up.drewN _ _)); clear S2 U12 K12 R2 hr3; generalize w12.drewN k3 = w13 at *; (obtain ⟨l0, l1, l2, l3, l4⟩ := K13.out))
          | (go_at_call 21; (with_reducible refine (t21k E3.out _).mono ?_); rintro e w' ⟨rfl, hw⟩; subst w'; clear E3)
          | (go_at_call 15; (with_reducible refine (C15.out _ _ _ d (H.out.up U13.out)).mono ?_); rintro e w14 ⟨pa, ca, rfl, BA, HU14⟩; clear l0 l1 l2 l3 l4; (have U14 : Hid (Up w w14) := U13.out.trans HU14.out); (have K14 : Hid (LK w.heap.size way G T M x w14) := K13.out.up HU14.out); (have S4 : Hid (SV w14 p' n c d') := S3.out.up HU14.out); clear HU14 S3 U13 K13; (obtain ⟨l0, l1, l2, l3, l4⟩ := K14.out))
          | (go_at_call 15; (with_reducible refine (C15.out _ _ _ d' S4.out).mono ?_); rintro e w15 ⟨pb, cb, rfl, BB, HU15⟩; clear l0 l1 l2 l3 l4; (have U15 : Hid (Up w w15) := U14.out.trans HU15.out); (have BA2 : Hid (BR w13.heap.size w15 (.slice pa n ca) (linL way G T M (ab x) d)) := OR.up BA.out HU15.out); clear HU15 S4 U14 K14 BA))
        clear C11 C15
        go_loopw [30, 273] (fun _ vi wr => ∃ i m : Nat, i ≤ n ∧ vi = .int .i64 i ∧ wr = w15.drewN m) (fun _ vi _ => n - (intOf vi).toNat)
        case atStart => exact ⟨0, 0, by omega, rfl, rfl⟩
        case round =>
          obtain ⟨i, md, hin2, rfl, hw⟩ := hrel
          rename World => W16
          have HU16 : Hid (Up w15 W16) := by rw [hw]; exact Up.drewN _ _
          have HW : Hid (W16 = w15.drewN md) := hw
          clear hw
          by_cases hlt2 : i < n
          · obtain ⟨ga, hpa, ca0⟩ := br_at BA2.out hlt2
            obtain ⟨gb, hpb, cb0⟩ := br_at BB.out hlt2
            subst hpa hpb
            rw [linL_at (by rw [H.out.len]; exact hlt2)] at ca0
            rw [linL_at (by rw [HD.out]; exact hlt2), HEC.out i hlt2] at cb0
            have ca1 := cell_up ca0 HU16.out
            have cb1 := cell_up cb0 HU16.out
            clear ca0 cb0
            generalize echoD way G T M (ab x) d i = be at ca1 cb1
            have hz3 : (i : Int) < (n : Int) := by omega
            have hz5 : (0 : Int) ≤ (i : Int) := by omega
            cases be
            · go_wp2_with fail
              go_quiet (fail)
              go_wp2
              go_roundw
              case rel => exact ⟨i + 1, _, by omega, by go_num, by rw [HW.out, World.drewN_drewN]⟩
              case measure => simp [intOf]; omega
            · go_wp2_with fail
              go_quiet (fail)
              go_wp2
              go_roundw
              case rel => exact ⟨i + 1, _, by omega, by go_num, by rw [HW.out, World.drewN_drewN]⟩
              case measure => simp [intOf]; omega
          · have hie2 : n = i := by omega
            subst hie2
            go_wp2
            go_ret
            exact ⟨rfl, U15.out.trans HU16.out⟩
end Go.Proofs.Ytfggdaebahdnfaa

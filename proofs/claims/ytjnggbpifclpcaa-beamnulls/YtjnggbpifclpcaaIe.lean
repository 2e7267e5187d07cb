/- Null as the document says it: the walk, where it tells weights. -/
import Derived.Test.YtjnggbpifclpcaaId
import Derived.Test.YtjnggbpifclpcaaRz
import Derived.Test.YtjnggbpifclpcaaVh
namespace Go.Proofs.Ytjnggbpifclpcaa
open Go.ChangeShapes Go.WideShapes Go.ChangeAt Go.RowKit Go.Fl Ieee
attribute [local go_sem] run_store_float run_store_complex call34 call33 run_neg fold_eq fold_ne fold_lt fold_gt abs_eq

attribute [local go_sem] fieldC_0 fieldC_1
theorem root_zero {zc zs r0 r1 : Nat} {X : Nat → CN} {n : Nat} (h : (ab r0, ab r1) = X 0) : (bin .sub (ab 0) (mulR (ab zc) (ab zs) (ab r0) (ab r1)), bin .sub (ab 0) (mulI (ab zc) (ab zs) (ab r0) (ab r1))) = rootF X (n + 1) (ab zc, ab zs) 0 := by
  unfold rootF aheadF
  rw [if_pos (by omega), if_pos rfl, ← h]
  rfl
theorem root_zero' {zc zs r0 r1 : Nat} {X F : Nat → CN} {n : Nat} (hF : rootF X (n + 1) (ab zc, ab zs) = F) (h : (ab r0, ab r1) = X 0) : (bin .sub (ab 0) (mulR (ab zc) (ab zs) (ab r0) (ab r1)), bin .sub (ab 0) (mulI (ab zc) (ab zs) (ab r0) (ab r1))) = F 0 := by
  rw [← hF]; exact root_zero h
def lenV (v : Value) : Nat := match v with
  | .slice _ n _ => n
  | _ => 0
theorem eg28 (args : Array Value) (w : World) : (callFunc 28 args).run Try.prog w = .ok (.enter 28 args) w := enters Try.func28 (by kernel_rfl) (by kernel_rfl) _ _
theorem eg29 (args : Array Value) (w : World) : (callFunc 29 args).run Try.prog w = .ok (.enter 29 args) w := enters Try.func29 (by kernel_rfl) (by kernel_rfl) _ _
theorem root_mid {zc zs r0 r1 a0 a1 : Nat} {X : Nat → CN} {n j : Nat} (hj : j + 1 < n + 1) (h : (ab r0, ab r1) = X (j + 1)) (h' : (ab a0, ab a1) = X j) : (bin .sub (ab a0) (mulR (ab zc) (ab zs) (ab r0) (ab r1)), bin .sub (ab a1) (mulI (ab zc) (ab zs) (ab r0) (ab r1))) = rootF X (n + 1) (ab zc, ab zs) (j + 1) := by
  unfold rootF
  rw [if_pos hj, ahead_step, ← h, ← h']
  rfl
theorem root_end {zc zs a0 a1 : Nat} {X : Nat → CN} {n : Nat} (h' : (ab a0, ab a1) = X n) : (ab a0, ab a1) = rootF X (n + 1) (ab zc, ab zs) (n + 1) := by
  unfold rootF
  rw [if_neg (by omega), ahead_step, h']
set_option maxHeartbeats 16000000 in
set_option maxRecDepth 20000 in
theorem t11ok {w : World} {p : Option Addr} {m c N x : Nat} {d : Array Nat} (h : FV w p m d) (h1 : m < N) (h2 : N ≤ 64) (hf : (fin (ab x) && finL d) = true) : Calls Try.prog 11 #[.int .i64 N, .float .f64 x, .slice p m c] w (QL w ((List.range N).map (nullF (ab x) (fun i => ab d[i]!) m)) 0) := by
  obtain ⟨i0, hi, hz0, hz1, hz2⟩ := info_parts info47
  have HV : Hid (∀ W, Up w W → FV W p m d) := fun W hu => h.up hu
  have HL : Hid (d.size = m) := h.len
  have z0 : (N : Int) ≤ 64 := by omega
  have z1 : (m : Int) < (N : Int) := by omega
  have z2 : ¬ (N : Int) ≤ (m : Int) := by omega
  have HF : Hid ((fin (ab x) && allN (fun i => fin (ab d[i]!)) m) = true) := by show _ = _; rw [← hf, ← h.len]; rfl
  clear h hf
  go_enter Try.func11, Try.ntmps11
  go_wp2_with (go_at_call 19; (with_reducible refine (t19 _ _).mono ?_); rintro e w' ⟨rfl, hw⟩; subst w')
  go_loopw [8, 9, 10] (fun vb vi _ wr => ∃ i : Nat, i ≤ m ∧ vi = .int .i64 i ∧ vb = .bool (fin (ab x) && allN (fun i => fin (ab d[i]!)) i) ∧ w = wr) (fun _ vi _ _ => m - (intOf vi).toNat)
  case atStart => exact ⟨0, by omega, rfl, by show _ = Value.bool (fin (ab x) && true); rw [Bool.and_true], rfl⟩
  case round =>
    obtain ⟨i, hi', rfl, rfl, hw⟩ := hrel
    subst hw
    by_cases hlt : i < m
    · obtain ⟨b, o, rfl, hr⟩ := (HV.out w (Up.refl _)).rd (by omega)
      obtain ⟨y, hy⟩ : ∃ y, d[i]! = y := ⟨_, rfl⟩
      have c1 : w.cell? ⟨b, o + i, none⟩ = some (.float .f64 y) := by rw [← hy]; exact hr i (by rw [HL.out]; exact hlt)
      have HY : Hid (d[i]! = y) := hy
      clear hr hy
      have z3 : (i : Int) < (m : Int) := by omega
      have z4 : (0 : Int) ≤ (i : Int) := by omega
      obtain ⟨B, hB⟩ : ∃ B, (fin (ab x) && allN (fun i => fin (ab d[i]!)) i) = B := ⟨_, rfl⟩
      have HB : Hid ((fin (ab x) && allN (fun i => fin (ab d[i]!)) (i + 1)) = (B && fin (ab y))) := by
        show _ = _
        rw [← hB, ← HY.out, show allN (fun i => fin (ab d[i]!)) (i + 1) = (allN (fun i => fin (ab d[i]!)) i && fin (ab d[i]!)) from rfl, Bool.and_assoc]
      rw [hB]
      clear hB
      cases B
      all_goals
        go_wp2_with (go_at_call 19; (with_reducible refine (t19 _ _).mono ?_); rintro e w' ⟨rfl, hw⟩; subst w')
        go_roundw
        case rel => exact ⟨i + 1, by omega, by go_num, by rw [HB.out]; rfl, by trivial⟩
        case measure => simp [intOf]; omega
    · obtain rfl : m = i := by omega
      rw [HF.out]
      go_wp2
      go_loopw [11, 12, 13, 14, 15, 16] (fun vr vi _ _ _ _ wr => ∃ (j g cc : Nat) (f : Nat → Nat × Nat), j ≤ m ∧ vi = .int .i64 j ∧ vr = .slice (some ⟨g, 0, none⟩) (j + 1) cc ∧ Hid (SD wr g (j + 1) f ∧ ∀ l, l < j + 1 → ab2 (f l) = rowsN (ab x) (fun i => ab d[i]!) j l ∧ Sm (f l).2) ∧ Hid (Up w wr)) (fun _ vi _ _ _ _ _ => m - (intOf vi).toNat)
      case atStart =>
        refine ⟨0, _, 1, fun _ => (4607182418800017408, 0), by omega, rfl, rfl, ⟨fun l hl => ?_, fun l hl => ⟨rfl, fun _ => show 0 < 2 ^ 64 by decide⟩⟩, Up.alloc _ _⟩
        obtain rfl : l = 0 := by omega
        exact ⟨World.cell?_alloc_at _ _ _ _ rfl, World.cell?_alloc_at _ _ _ _ rfl⟩
      case round =>
        obtain ⟨i, g, cc, f, hi', rfl, rfl, HR, HUW⟩ := hrel
        rename World => wr
        by_cases hlt : i < m
        · obtain ⟨b, o, rfl, hr⟩ := (HV.out wr HUW.out).rd (by omega)
          obtain ⟨y, hy⟩ : ∃ y, d[i]! = y := ⟨_, rfl⟩
          have c1 : wr.cell? ⟨b, o + i, none⟩ = some (.float .f64 y) := by rw [← hy]; exact hr i (by rw [HL.out]; exact hlt)
          have HY : Hid (d[i]! = y) := hy
          clear hr hy
          have y3 : (i : Int) < (m : Int) := by omega
          have y4 : (0 : Int) ≤ (i : Int) := by omega
          go_wp2_with (first
            | (go_at_call 20; (with_reducible refine (t20 _ _ _).mono ?_); rintro e w1 ⟨a, rfl, ha, hu1⟩)
            | (go_at_call 21; (with_reducible refine (t21 _ _).mono ?_); rintro e w2 ⟨zc, zs, rfl, hzc, hzs, hu2⟩))
          obtain ⟨w3, hw3⟩ : ∃ w3, w2.alloc (.cells #[.float .f64 zc, .float .f64 zs] 48) = w3 := ⟨_, rfl⟩
          obtain ⟨bz, hbz⟩ : ∃ bz, w2.heap.size = bz := ⟨_, rfl⟩
          have HZ : Hid (w3.cell? ⟨bz, 0, none⟩ = some (.float .f64 zc) ∧ w3.cell? ⟨bz, 1, none⟩ = some (.float .f64 zs)) := by rw [← hw3, ← hbz]; exact ⟨World.cell?_alloc_at _ _ _ _ rfl, World.cell?_alloc_at _ _ _ _ rfl⟩
          have HU3 : Hid (Up wr w3) := by rw [← hw3]; exact (Up.trans hu1 hu2).trans (Up.alloc _ _)
          have HZZ : Hid ((ab zc, ab zs) = rtF (ab x) (ab d[i]!)) := by
            show _ = _
            unfold rtF
            rw [HY.out, ← ha.out, hzc.out, hzs.out]
          rw [hw3, hbz]
          clear hw3 hbz hu1 hu2 ha hzc hzs
          obtain ⟨F, hF⟩ : ∃ F, rootF (rowsN (ab x) (fun i => ab d[i]!) i) (i + 1) (ab zc, ab zs) = F := ⟨_, rfl⟩
          have HFF : Hid (rootF (rowsN (ab x) (fun i => ab d[i]!) i) (i + 1) (ab zc, ab zs) = F) := hF
          clear hF c1
          go_loopw [14, 15, 16] (fun v vk _ wx => ∃ k : Nat, k ≤ i + 2 ∧ vk = .int .i64 k ∧ Hid (GrS w3 wx v F k)) (fun _ vk _ _ => i + 2 - (intOf vk).toNat)
          case atStart => exact ⟨0, by omega, rfl, GrS.nil _ _⟩
          case round =>
            obtain ⟨k, hk, rfl, HG⟩ := hrel
            rename World => wx
            by_cases h0 : k = 0
            · subst h0
              obtain ⟨r0, r1, hr01⟩ : ∃ r0 r1, f 0 = (r0, r1) := ⟨_, _, rfl⟩
              have HR0 : Hid ((ab r0, ab r1) = rowsN (ab x) (fun i => ab d[i]!) i 0) := by
                have := (HR.out.2 0 (by omega)).1
                rw [hr01] at this; exact this
              have HRC : Hid (∀ W, Up wr W → W.cell? ⟨g, 0, none⟩ = some (.float .f64 r0) ∧ W.cell? ⟨g, 1, none⟩ = some (.float .f64 r1)) := fun W hu => by
                have := (HR.out.1.up hu) 0 (by omega)
                rw [hr01] at this; exact this
              clear hr01
              have y9 : (0 : Int) < (i : Int) + 1 := by omega
              go_wp2_with fail
              obtain ⟨wy, hwy⟩ : ∃ wy, wx.alloc (.cells #[.float .f64 0, .float .f64 0] 48) = wy := ⟨_, rfl⟩
              obtain ⟨bx, hbx⟩ : ∃ bx, wx.heap.size = bx := ⟨_, rfl⟩
              have HBX : Hid (wy.heap[bx]? = some (.cells #[.float .f64 0, .float .f64 0] 48 (0, 0))) := by rw [← hwy, ← hbx]; exact heap_alloc_last _ _
              have HUY : Hid (Up wx wy ∧ wx.heap.size ≤ bx) := ⟨by rw [← hwy]; exact Up.alloc _ _, by omega⟩
              rw [hwy, hbx]
              clear hwy hbx
              have HS : Hid (∀ w', Up wy w' → w'.cell? ⟨bz, 0, none⟩ = some (.float .f64 zc) ∧ w'.cell? ⟨bz, 1, none⟩ = some (.float .f64 zs) ∧ w'.cell? ⟨bx, 0, none⟩ = some (.float .f64 0) ∧ w'.cell? ⟨bx, 1, none⟩ = some (.float .f64 0) ∧ w'.cell? ⟨g, 0, none⟩ = some (.float .f64 r0) ∧ w'.cell? ⟨g, 1, none⟩ = some (.float .f64 r1) ∧ w'.frozen? ⟨bx, 0, none⟩ = false ∧ w'.frozen? ⟨bx, 1, none⟩ = false) := fun W hu => by
                obtain ⟨b0, b1, b2, b3⟩ := facts2 (kept2 (HBX.out) hu)
                exact ⟨cell_up (cell_up (HZ.out.1) (HG.out.below)) (HUY.out.1.trans hu), cell_up (cell_up (HZ.out.2) (HG.out.below)) (HUY.out.1.trans hu), b0, b1, (HRC.out W (((HU3.out.trans HG.out.below).trans HUY.out.1).trans hu)).1, (HRC.out W (((HU3.out.trans HG.out.below).trans HUY.out.1).trans hu)).2, b2, b3⟩
              refine wp_region_shut 7 [(0, some false), (1, some false), (2, none), (3, none), (4, some false), (5, some true), (6, some true)] (fun w9 => Up wy w9) (by kernel_rfl) (by decide) rfl (by kernel_rfl) (fun _ _ d _ _ h => by cases d <;> exact h) (Up.drewN wy 1) ?_
              refine OrdS.reads (.agg #[.float .f64 0, .float .f64 0]) (some 75) _ rfl rfl (Or.inl ⟨by kernel_rfl, fun w' hS => ?_⟩) ?_
              · obtain ⟨l0, l1, l2, l3, l4, l5, l6, l7⟩ := HS.out _ hS
                go_simp
              refine OrdS.reads (.agg #[.float .f64 zc, .float .f64 zs]) (some 76) _ rfl rfl (Or.inl ⟨by kernel_rfl, fun w' hS => ?_⟩) ?_
              · obtain ⟨l0, l1, l2, l3, l4, l5, l6, l7⟩ := HS.out _ hS
                go_simp
              refine OrdS.looks (.slice (some ⟨g, 0, none⟩) (i + 1) cc) (some 77) _ rfl rfl (Or.inl ⟨by kernel_rfl, fun w' hS => ?_⟩) ?_
              · go_simp
              refine OrdS.looks (.pointer (some ⟨g, 0, none⟩)) (some 78) _ rfl rfl (Or.inl ⟨by kernel_rfl, fun w' hS => ?_⟩) ?_
              · go_simp
              refine OrdS.reads (.agg #[.float .f64 r0, .float .f64 r1]) (some 79) _ rfl rfl (Or.inl ⟨by kernel_rfl, fun w' hS => ?_⟩) ?_
              · obtain ⟨l0, l1, l2, l3, l4, l5, l6, l7⟩ := HS.out _ hS
                go_simp
              simp only [Act.put, List.setIfInBounds_toArray, List.set_cons_succ, List.set_cons_zero]
              refine OrdS.does ?_
              refine wpOp_callG (f := 29) (some 80) rfl rfl (by kernel_rfl) rfl #[.agg #[.float .f64 zc, .float .f64 zs], .agg #[.float .f64 r0, .float .f64 r1]] (by kernel_rfl) (eg29 _ _) ?_
              refine (t29 zc zs r0 r1 _).mono ?_
              rintro e w4 ⟨mr, mi, rfl, hmr, hmi, hu4⟩
              have HU4 : Hid (Up wy w4) := (Up.drewN wy 1).trans hu4
              refine ⟨_, rfl, HU4.out, ?_⟩
              simp only [Act.put, List.setIfInBounds_toArray, List.set_cons_succ, List.set_cons_zero]
              refine OrdS.does ?_
              refine wpOp_callG (f := 28) (some 81) rfl rfl (by kernel_rfl) rfl #[.agg #[.float .f64 0, .float .f64 0], .agg #[.float .f64 mr, .float .f64 mi]] (by kernel_rfl) (eg28 _ _) ?_
              refine (t28 0 0 mr mi _).mono ?_
              rintro e w5 ⟨xr, xi, rfl, hxr, hxi, hu5⟩
              have HU5 : Hid (Up wy w5) := HU4.out.trans hu5
              refine ⟨_, rfl, HU5.out, ?_⟩
              refine OrdS.ends ?_
              simp only [List.drop_succ_cons, List.drop_zero, Act.put, List.setIfInBounds_toArray, List.set_cons_succ, List.set_cons_zero]
              have s5 := HS.out _ HU5.out
              obtain ⟨k0, k1, k2, k3, k4, k5, k6, k7⟩ := s5
              go_upto_region 28 with (fail)
              obtain ⟨W4, hW4⟩ : ∃ W4, (w5.setCell ⟨bx, 0, none⟩ (.float .f64 xr)).setCell ⟨bx, 1, none⟩ (.float .f64 xi) = W4 := ⟨_, rfl⟩
              have HW : Hid (Up wx W4 ∧ W4.heap[bx]? = some (.cells #[.float .f64 xr, .float .f64 xi] 48 (0, 0))) := by rw [← hW4]; exact ⟨((HUY.out.1.trans HU5.out).setCell HUY.out.2 _).setCell HUY.out.2 _, store2 (kept2 HBX.out (HU5.out))⟩
              rw [hW4]
              obtain ⟨f1, f2, -, -⟩ := facts2 HW.out.2
              obtain ⟨O, o1, o2, o3⟩ := HG.out.row
              have o4 := HG.out.below
              have sz1 : w3.heap.size ≤ wx.heap.size := o4.size
              have sz2 : wx.heap.size ≤ W4.heap.size := HW.out.1.size
              have HXY : Hid ((ab xr, ab xi) = F 0 ∧ Sm xi) := ⟨by rw [hxr.out, hxi.out, hmr.out, hmi.out]; exact root_zero' HFF.out HR0.out, sm_sub hxi.out⟩
              clear hW4
              go_wp2_with (at_builtin; refine wpList_append_own _ rfl _ _ 23 rfl w3.heap.size 48 i0 (.agg #[.float .f64 0, .float .f64 0]) 2 16 Try.underlying23 hi hz0 hz1 hz2 rfl (by decide) _ _ _ rfl (owns_up (owns_up o2 HW.out.1) (Up.alloc _ _)) ⟨W4.heap.size, 0, none⟩ 1 1 [.float .f64 xr, .float .f64 xi] rfl rfl (cell_new2 _ _ _ _) (two_cell _ _) (by unfold maxLen; omega) (by omega) (by simp; omega) ?_)
              intro v' w6 hown' hgrow _
              have HN : Hid (GrS w3 w6 v' F (0 + 1)) := GrS.push o1 o2 o3 o4 (HW.out.1.trans (Up.alloc _ _)) hown' hgrow HXY.out.1 HXY.out.2
              clear hown' hgrow o1 o2 o3 o4
              go_wp2
              go_roundw
              case rel => exact ⟨0 + 1, by omega, by go_num, HN⟩
              case measure => simp [intOf] <;> omega
            · by_cases hm : k < i + 1
              · obtain ⟨j, hj⟩ : ∃ j, j + 1 = k := ⟨k - 1, by omega⟩
                have hjk : Hid (j + 1 = k) := hj
                obtain ⟨a0, a1, ha01⟩ : ∃ a0 a1, f j = (a0, a1) := ⟨_, _, rfl⟩
                have HA0 : Hid ((ab a0, ab a1) = rowsN (ab x) (fun i => ab d[i]!) i j) := by
                  have := (HR.out.2 j (by omega)).1
                  rw [ha01] at this; exact this
                have HAC : Hid (∀ W, Up wr W → W.cell? ⟨g, j * 2, none⟩ = some (.float .f64 a0) ∧ W.cell? ⟨g, j * 2 + 1, none⟩ = some (.float .f64 a1)) := fun W hu => by
                  have := (HR.out.1.up hu) j (by omega)
                  rw [ha01] at this; exact this
                clear ha01
                have x1 : (k : Int) - 1 = (j : Int) := by omega
                have x2 : (k : Int) < (i : Int) + 1 := by omega
                have x3 : (0 : Int) ≤ (j : Int) := by omega
                have x4 : (j : Int) < (i : Int) + 1 := by omega
                have x5 : ((k : Int) == 0) = false := by rw [beq_eq_false_iff_ne]; omega
                have x6 : (k : Int) ≤ (i : Int) + 1 := by omega
                have x7 : (0 : Int) ≤ (k : Int) := by omega
                have x8 : IntKind.i64.wrap (j : Int) = j := i64_id (by omega)
                obtain ⟨r0, r1, hr01⟩ : ∃ r0 r1, f k = (r0, r1) := ⟨_, _, rfl⟩
                have HR0 : Hid ((ab r0, ab r1) = rowsN (ab x) (fun i => ab d[i]!) i k) := by
                  have := (HR.out.2 k (by omega)).1
                  rw [hr01] at this; exact this
                have HRC : Hid (∀ W, Up wr W → W.cell? ⟨g, k * 2, none⟩ = some (.float .f64 r0) ∧ W.cell? ⟨g, k * 2 + 1, none⟩ = some (.float .f64 r1)) := fun W hu => by
                  have := (HR.out.1.up hu) k (by omega)
                  rw [hr01] at this; exact this
                clear hr01
                go_wp2_with fail
                obtain ⟨wy, hwy⟩ : ∃ wy, wx.alloc (.cells #[.float .f64 0, .float .f64 0] 48) = wy := ⟨_, rfl⟩
                obtain ⟨bx, hbx⟩ : ∃ bx, wx.heap.size = bx := ⟨_, rfl⟩
                have HBX : Hid (wy.heap[bx]? = some (.cells #[.float .f64 0, .float .f64 0] 48 (0, 0))) := by rw [← hwy, ← hbx]; exact heap_alloc_last _ _
                have HUY : Hid (Up wx wy ∧ wx.heap.size ≤ bx) := ⟨by rw [← hwy]; exact Up.alloc _ _, by omega⟩
                rw [hwy, hbx]
                clear hwy hbx
                have HS : Hid (∀ w', Up wy w' → w'.cell? ⟨bz, 0, none⟩ = some (.float .f64 zc) ∧ w'.cell? ⟨bz, 1, none⟩ = some (.float .f64 zs) ∧ w'.cell? ⟨bx, 0, none⟩ = some (.float .f64 0) ∧ w'.cell? ⟨bx, 1, none⟩ = some (.float .f64 0) ∧ w'.cell? ⟨g, j * 2, none⟩ = some (.float .f64 a0) ∧ w'.cell? ⟨g, j * 2 + 1, none⟩ = some (.float .f64 a1) ∧ w'.cell? ⟨g, k * 2, none⟩ = some (.float .f64 r0) ∧ w'.cell? ⟨g, k * 2 + 1, none⟩ = some (.float .f64 r1) ∧ w'.frozen? ⟨bx, 0, none⟩ = false ∧ w'.frozen? ⟨bx, 1, none⟩ = false) := fun W hu => by
                  obtain ⟨b0, b1, b2, b3⟩ := facts2 (kept2 (HBX.out) hu)
                  exact ⟨cell_up (cell_up (HZ.out.1) (HG.out.below)) (HUY.out.1.trans hu), cell_up (cell_up (HZ.out.2) (HG.out.below)) (HUY.out.1.trans hu), b0, b1, (HAC.out W (((HU3.out.trans HG.out.below).trans HUY.out.1).trans hu)).1, (HAC.out W (((HU3.out.trans HG.out.below).trans HUY.out.1).trans hu)).2, (HRC.out W (((HU3.out.trans HG.out.below).trans HUY.out.1).trans hu)).1, (HRC.out W (((HU3.out.trans HG.out.below).trans HUY.out.1).trans hu)).2, b2, b3⟩
                refine wp_region_shut 12 [(0, none), (1, none), (2, none), (3, none), (4, some false), (5, some false), (6, none), (7, none), (8, none), (9, some false), (10, some true), (11, some true)] (fun w9 => Up wy w9) (by kernel_rfl) (by decide) rfl (by kernel_rfl) (fun _ _ d _ _ h => by cases d <;> exact h) (Up.drewN wy 1) ?_
                refine OrdS.looks (.slice (some ⟨g, 0, none⟩) (i + 1) cc) (some 87) _ rfl rfl (Or.inl ⟨by kernel_rfl, fun w' hS => ?_⟩) ?_
                · go_simp
                refine OrdS.looks (.int .i64 k) (some 88) _ rfl rfl (Or.inl ⟨by kernel_rfl, fun w' hS => ?_⟩) ?_
                · go_simp
                refine OrdS.looks (.int .i64 j) (some 89) _ rfl rfl (Or.inl ⟨by kernel_rfl, fun w' hS => ?_⟩) ?_
                · go_simp
                refine OrdS.looks (.pointer (some ⟨g, j * 2, none⟩)) (some 90) _ rfl rfl (Or.inl ⟨by kernel_rfl, fun w' hS => ?_⟩) ?_
                · go_simp
                refine OrdS.reads (.agg #[.float .f64 a0, .float .f64 a1]) (some 91) _ rfl rfl (Or.inl ⟨by kernel_rfl, fun w' hS => ?_⟩) ?_
                · obtain ⟨l0, l1, l2, l3, l4, l5, l6, l7, l8, l9⟩ := HS.out _ hS
                  go_simp
                refine OrdS.reads (.agg #[.float .f64 zc, .float .f64 zs]) (some 92) _ rfl rfl (Or.inl ⟨by kernel_rfl, fun w' hS => ?_⟩) ?_
                · obtain ⟨l0, l1, l2, l3, l4, l5, l6, l7, l8, l9⟩ := HS.out _ hS
                  go_simp
                refine OrdS.looks (.slice (some ⟨g, 0, none⟩) (i + 1) cc) (some 93) _ rfl rfl (Or.inl ⟨by kernel_rfl, fun w' hS => ?_⟩) ?_
                · go_simp
                refine OrdS.looks (.int .i64 k) (some 94) _ rfl rfl (Or.inl ⟨by kernel_rfl, fun w' hS => ?_⟩) ?_
                · go_simp
                refine OrdS.looks (.pointer (some ⟨g, k * 2, none⟩)) (some 95) _ rfl rfl (Or.inl ⟨by kernel_rfl, fun w' hS => ?_⟩) ?_
                · go_simp
                refine OrdS.reads (.agg #[.float .f64 r0, .float .f64 r1]) (some 96) _ rfl rfl (Or.inl ⟨by kernel_rfl, fun w' hS => ?_⟩) ?_
                · obtain ⟨l0, l1, l2, l3, l4, l5, l6, l7, l8, l9⟩ := HS.out _ hS
                  go_simp
                simp only [Act.put, List.setIfInBounds_toArray, List.set_cons_succ, List.set_cons_zero]
                refine OrdS.does ?_
                refine wpOp_callG (f := 29) (some 97) rfl rfl (by kernel_rfl) rfl #[.agg #[.float .f64 zc, .float .f64 zs], .agg #[.float .f64 r0, .float .f64 r1]] (by kernel_rfl) (eg29 _ _) ?_
                refine (t29 zc zs r0 r1 _).mono ?_
                rintro e w4 ⟨mr, mi, rfl, hmr, hmi, hu4⟩
                have HU4 : Hid (Up wy w4) := (Up.drewN wy 1).trans hu4
                refine ⟨_, rfl, HU4.out, ?_⟩
                simp only [Act.put, List.setIfInBounds_toArray, List.set_cons_succ, List.set_cons_zero]
                refine OrdS.does ?_
                refine wpOp_callG (f := 28) (some 98) rfl rfl (by kernel_rfl) rfl #[.agg #[.float .f64 a0, .float .f64 a1], .agg #[.float .f64 mr, .float .f64 mi]] (by kernel_rfl) (eg28 _ _) ?_
                refine (t28 a0 a1 mr mi _).mono ?_
                rintro e w5 ⟨xr, xi, rfl, hxr, hxi, hu5⟩
                have HU5 : Hid (Up wy w5) := HU4.out.trans hu5
                refine ⟨_, rfl, HU5.out, ?_⟩
                refine OrdS.ends ?_
                simp only [List.drop_succ_cons, List.drop_zero, Act.put, List.setIfInBounds_toArray, List.set_cons_succ, List.set_cons_zero]
                have s5 := HS.out _ HU5.out
                obtain ⟨k0, k1, k2, k3, k4, k5, k6, k7, k8, k9⟩ := s5
                go_upto_region 28 with (fail)
                obtain ⟨W4, hW4⟩ : ∃ W4, (w5.setCell ⟨bx, 0, none⟩ (.float .f64 xr)).setCell ⟨bx, 1, none⟩ (.float .f64 xi) = W4 := ⟨_, rfl⟩
                have HW : Hid (Up wx W4 ∧ W4.heap[bx]? = some (.cells #[.float .f64 xr, .float .f64 xi] 48 (0, 0))) := by rw [← hW4]; exact ⟨((HUY.out.1.trans HU5.out).setCell HUY.out.2 _).setCell HUY.out.2 _, store2 (kept2 HBX.out (HU5.out))⟩
                rw [hW4]
                obtain ⟨f1, f2, -, -⟩ := facts2 HW.out.2
                obtain ⟨O, o1, o2, o3⟩ := HG.out.row
                have o4 := HG.out.below
                have sz1 : w3.heap.size ≤ wx.heap.size := o4.size
                have sz2 : wx.heap.size ≤ W4.heap.size := HW.out.1.size
                have HXY : Hid ((ab xr, ab xi) = F k ∧ Sm xi) := ⟨by rw [hxr.out, hxi.out, hmr.out, hmi.out, ← HFF.out, ← hjk.out]; exact root_mid (by have := hjk.out; omega) (by rw [hjk.out]; exact HR0.out) HA0.out, sm_sub hxi.out⟩
                clear hW4
                go_wp2_with (at_builtin; refine wpList_append_own _ rfl _ _ 23 rfl w3.heap.size 48 i0 (.agg #[.float .f64 0, .float .f64 0]) 2 16 Try.underlying23 hi hz0 hz1 hz2 rfl (by decide) _ _ _ rfl (owns_up (owns_up o2 HW.out.1) (Up.alloc _ _)) ⟨W4.heap.size, 0, none⟩ 1 1 [.float .f64 xr, .float .f64 xi] rfl rfl (cell_new2 _ _ _ _) (two_cell _ _) (by unfold maxLen; omega) (by omega) (by simp; omega) ?_)
                intro v' w6 hown' hgrow _
                have HN : Hid (GrS w3 w6 v' F (k + 1)) := GrS.push o1 o2 o3 o4 (HW.out.1.trans (Up.alloc _ _)) hown' hgrow HXY.out.1 HXY.out.2
                clear hown' hgrow o1 o2 o3 o4
                go_wp2
                go_roundw
                case rel => exact ⟨k + 1, by omega, by go_num, HN⟩
                case measure => simp [intOf] <;> omega
              · by_cases he : k = i + 1
                · skip
                  have hki : Hid (k = i + 1) := he
                  obtain ⟨a0, a1, ha01⟩ : ∃ a0 a1, f i = (a0, a1) := ⟨_, _, rfl⟩
                  have HA0 : Hid ((ab a0, ab a1) = rowsN (ab x) (fun i => ab d[i]!) i i ∧ Sm a1) := by
                    have := HR.out.2 i (by omega)
                    rw [ha01] at this; exact this
                  have HAC : Hid (∀ W, Up wr W → W.cell? ⟨g, i * 2, none⟩ = some (.float .f64 a0) ∧ W.cell? ⟨g, i * 2 + 1, none⟩ = some (.float .f64 a1)) := fun W hu => by
                    have := (HR.out.1.up hu) i (by omega)
                    rw [ha01] at this; exact this
                  clear ha01
                  have x1 : (k : Int) - 1 = (i : Int) := by omega
                  have x2 : ¬ (k : Int) < (i : Int) + 1 := by omega
                  have x3 : (0 : Int) ≤ (i : Int) := by omega
                  have x4 : (i : Int) < (i : Int) + 1 := by omega
                  have x5 : ((k : Int) == 0) = false := by rw [beq_eq_false_iff_ne]; omega
                  have x6 : (k : Int) ≤ (i : Int) + 1 := by omega
                  clear he
                  obtain ⟨k1, k2⟩ := HAC.out (wx.alloc (.cells #[.float .f64 0, .float .f64 0] 48)) ((HU3.out.trans HG.out.below).trans (Up.alloc _ _))
                  go_upto_region 28 with (fail)
                  obtain ⟨bx, hbx⟩ : ∃ bx, wx.heap.size = bx := ⟨_, rfl⟩
                  clear k1 k2
                  obtain ⟨W4, hW4⟩ : ∃ W4, wx.alloc (.cells #[.float .f64 a0, .float .f64 a1] 48) = W4 := ⟨_, rfl⟩
                  have HW : Hid (Up wx W4 ∧ W4.heap[bx]? = some (.cells #[.float .f64 a0, .float .f64 a1] 48 (0, 0))) := by rw [← hW4]; exact ⟨Up.alloc _ _, by rw [← hbx]; exact heap_alloc_last _ _⟩
                  rw [hW4, hbx]
                  obtain ⟨f1, f2, -, -⟩ := facts2 HW.out.2
                  obtain ⟨O, o1, o2, o3⟩ := HG.out.row
                  have o4 := HG.out.below
                  have sz1 : w3.heap.size ≤ wx.heap.size := o4.size
                  have sz2 : wx.heap.size ≤ W4.heap.size := HW.out.1.size
                  have HXY : Hid ((ab a0, ab a1) = F k ∧ Sm a1) := ⟨by rw [← HFF.out, hki.out]; exact root_end HA0.out.1, HA0.out.2⟩
                  clear hW4
                  go_wp2_with (at_builtin; refine wpList_append_own _ rfl _ _ 23 rfl w3.heap.size 48 i0 (.agg #[.float .f64 0, .float .f64 0]) 2 16 Try.underlying23 hi hz0 hz1 hz2 rfl (by decide) _ _ _ rfl (owns_up (owns_up o2 HW.out.1) (Up.alloc _ _)) ⟨W4.heap.size, 0, none⟩ 1 1 [.float .f64 a0, .float .f64 a1] rfl rfl (cell_new2 _ _ _ _) (two_cell _ _) (by unfold maxLen; omega) (by omega) (by simp; omega) ?_)
                  intro v' w6 hown' hgrow _
                  have HN : Hid (GrS w3 w6 v' F (k + 1)) := GrS.push o1 o2 o3 o4 (HW.out.1.trans (Up.alloc _ _)) hown' hgrow HXY.out.1 HXY.out.2
                  clear hown' hgrow o1 o2 o3 o4
                  go_wp2
                  go_roundw
                  case rel => exact ⟨k + 1, by omega, by go_num, HN⟩
                  case measure => simp [intOf] <;> omega
                · obtain rfl : k = i + 2 := by omega
                  obtain ⟨g', c', f', hv, hsd, hpr⟩ := HG.out.sd
                  subst hv
                  have HP : Hid (SD wx g' (i + 1 + 1) f' ∧ ∀ l, l < i + 1 + 1 → ab2 (f' l) = rowsN (ab x) (fun i => ab d[i]!) (i + 1) l ∧ Sm (f' l).2) := by
                    refine ⟨hsd, fun l hl => ⟨(hpr l hl).1.trans ?_, (hpr l hl).2⟩⟩
                    rw [← HFF.out, HZZ.out]
                    rfl
                  have x2 : ¬ ((i + 2 : Nat) : Int) ≤ (i : Int) + 1 := by omega
                  clear hsd hpr
                  go_wp2
                  go_roundw
                  case rel => exact ⟨i + 1, g', c', f', by omega, by go_num, rfl, HP, (HUW.out.trans HU3.out).trans HG.out.below⟩
                  case measure => simp [intOf] <;> omega
        · obtain rfl : m = i := by omega
          go_wp2
          go_loopw [17, 18, 19] (fun v vk _ wx => ∃ k : Nat, k ≤ m + 1 ∧ vk = .int .i64 k ∧ Hid (Grow wr wx v (nullF (ab x) (fun i => ab d[i]!) m) k)) (fun _ vk _ _ => m + 1 - (intOf vk).toNat)
          case atStart => exact ⟨0, by omega, rfl, Grow.nil _ _⟩
          case round =>
            obtain ⟨k, hk, rfl, HG⟩ := hrel
            rename World => wx
            by_cases hlt2 : k < m + 1
            · obtain ⟨r0, r1, hr01⟩ : ∃ r0 r1, f k = (r0, r1) := ⟨_, _, rfl⟩
              have HR0 : Hid ((ab r0, ab (flip r1)) = nullF (ab x) (fun i => ab d[i]!) m k) := by
                have q := HR.out.2 k (by omega)
                rw [hr01] at q
                show _ = _
                unfold nullF
                rw [if_pos hlt2, flip_ab q.2, ← q.1]
                rfl
              obtain ⟨c1, c2⟩ : wx.cell? ⟨g, k * 2, none⟩ = some (.float .f64 r0) ∧ wx.cell? ⟨g, k * 2 + 1, none⟩ = some (.float .f64 r1) := by
                have := (HR.out.1.up HG.out.below) k (by omega)
                rw [hr01] at this; exact this
              clear hr01
              have x2 : (k : Int) < (m : Int) + 1 := by omega
              have x7 : (0 : Int) ≤ (k : Int) := by omega
              go_wp2_with (first
                | (go_at_call 30; (with_reducible refine (t30 _ _ _).mono ?_); rintro e w2 ⟨cr, ci, rfl, hcr, hci, hu⟩; (have HG2 : Hid (Grow wr w2 u17 (nullF (ab x) (fun i => ab d[i]!) m) k) := HG.out.up hu); obtain ⟨⟨O, o1, o2, o3⟩, o4⟩ := HG2.out; (have sz : wr.heap.size ≤ w2.heap.size := o4.size); clear HG hu)
                | (at_builtin; refine wpList_append_own _ rfl _ _ 23 rfl wr.heap.size 48 i0 (.agg #[.float .f64 0, .float .f64 0]) 2 16 Try.underlying23 hi hz0 hz1 hz2 rfl (by decide) _ _ _ rfl (owns_up o2 (up_new _ _ _)) ⟨w2.heap.size + 1, 0, none⟩ 1 1 [.float .f64 cr, .float .f64 ci] rfl rfl (cell_new2b _ _ _ _ _) (two_cell _ _) (by unfold maxLen; omega) (by omega) (by simp; omega) ?_))
              intro v' w3 hown' hgrow _
              have HN : Hid (Grow wr w3 v' (nullF (ab x) (fun i => ab d[i]!) m) (k + 1)) := Grow.push o1 o2 o3 o4 (up_new _ _ _) hown' hgrow (by rw [hcr.out, ← HR0.out]) (by rw [hci.out, ← HR0.out])
              clear hown' hgrow o1 o2 o3 o4 HG2
              go_wp2
              go_roundw
              case rel => exact ⟨k + 1, by omega, by go_num, HN⟩
              case measure => simp [intOf] <;> omega
            · obtain rfl : k = m + 1 := by omega
              have x2 : ¬ ((m + 1 : Nat) : Int) < (m : Int) + 1 := by omega
              go_wp2
              go_loopw [17] (fun v wy => ∃ (k : Nat) (pp : Option Addr) (cp : Nat), m + 1 ≤ k ∧ k ≤ N ∧ v = .slice pp k cp ∧ Hid (Grow wr wy (.slice pp k cp) (nullF (ab x) (fun i => ab d[i]!) m) k)) (fun v _ => N - lenV v)
              case atStart =>
                obtain ⟨O, q1, q2, q3⟩ := HG.out.row
                obtain ⟨pp, cp, e, _⟩ := own_form q2
                subst e
                exact ⟨m + 1, pp, cp, by omega, by omega, rfl, HG⟩
              case round =>
                clear HG
                obtain ⟨k, pp, cp, hk1, hk2, rfl, HG⟩ := hrel
                rename World => wy
                by_cases hlt3 : k < N
                · obtain ⟨⟨O, o1, o2, o3⟩, o4⟩ := HG.out
                  have sz : wr.heap.size ≤ wy.heap.size := o4.size
                  have x8 : (k : Int) < (N : Int) := by omega
                  go_wp2_with (at_builtin; refine wpList_append_own _ rfl _ _ 23 rfl wr.heap.size 48 i0 (.agg #[.float .f64 0, .float .f64 0]) 2 16 Try.underlying23 hi hz0 hz1 hz2 rfl (by decide) _ _ _ rfl (owns_up o2 (Up.alloc _ _)) ⟨wy.heap.size, 0, none⟩ 1 1 [.float .f64 0, .float .f64 0] rfl rfl (cell_new2 _ _ _ _) (two_cell _ _) (by unfold maxLen; omega) (by omega) (by simp; omega) ?_)
                  intro v' w3 hown' hgrow _
                  have HN : Hid (Grow wr w3 v' (nullF (ab x) (fun i => ab d[i]!) m) (k + 1)) := Grow.push o1 o2 o3 o4 (Up.alloc _ _) hown' hgrow (by unfold nullF; rw [if_neg (by omega)]; rfl) (by unfold nullF; rw [if_neg (by omega)]; rfl)
                  clear hown' hgrow o1 o2 o3 o4 HG
                  obtain ⟨O', q1, q2, q3⟩ := HN.out.row
                  obtain ⟨pp', cp', e', _⟩ := own_form q2
                  subst e'
                  clear q1 q2 q3
                  go_wp2
                  go_roundw
                  case rel => exact ⟨k + 1, pp', cp', by omega, by omega, rfl, HN⟩
                  case measure => simp [lenV] <;> omega
                · obtain rfl : k = N := by omega
                  go_wp2
                  go_ret2
                  exact QL.from HUW.out (HG.out.ql rfl)

end Go.Proofs.Ytjnggbpifclpcaa

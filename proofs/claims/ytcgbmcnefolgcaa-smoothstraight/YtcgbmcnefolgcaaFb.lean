/- Back, the document's. -/
import Derived.Test.YtcgbmcnefolgcaaFa
import Derived.Test.YtcgbmcnefolgcaaCf
import Derived.Test.YtcgbmcnefolgcaaBf
namespace Go.Proofs.Ytcgbmcnefolgcaa
open Go.ChangeShapes Go.WideShapes Go.ChangeAt Go.RowKit Go.Fl Go.Sort
attribute [local go_sem] run_store_float call22 call54 run_neg fold_eq fold_ne fold_lt fold_gt abs_eq

theorem ge_lt {x : Nat} (h : fin (ab x) = true) : geF (ab x) (ab 0) = !ltF (ab x) (ab 0) := by
  have hN := fin_nan h
  have e1 : ord (ab x) (ab 0) = some (compare (lin x) (lin 0)) := by rw [← order_ab]; exact order_lin hN (by decide +kernel)
  unfold geF gtF eqF ltF
  rw [e1]
  cases compare (lin x) (lin 0) <;> rfl
theorem lasts_lt {x : Nat} : lastsF (ab x) = (fin (ab x) && !ltF (ab x) (ab 0)) := by
  unfold lastsF
  cases h : fin (ab x)
  · rfl
  · rw [ge_lt h]
theorem eg33 (args : Array Value) (w : World) : (callFunc 33 args).run Try.prog w = .ok (.enter 33 args) w := enters Try.func33 (by kernel_rfl) (by kernel_rfl) _ _
set_option maxHeartbeats 8000000 in
set_option maxRecDepth 20000 in
theorem t12 {w : World} {p p2 : Option Addr} {n cap m cap2 : Nat} {S : Nat → Stt} {d : Array Nat} (q : Nat) (h : SS w p n cap S) (h2 : SV w p2 m cap2 d) : Calls Try.prog 12 #[.slice p n cap, .slice p2 m cap2, .float .f64 q] w (BaR w n S d (ab q)) := by
  obtain ⟨i0, hi0, hz0, hz1, hz2⟩ := info_parts info27
  have hl := h2.len
  have HS : Hid (SS w p n cap S ∧ SV w p2 m cap2 d) := ⟨h, h2⟩
  have HE : Hid (bakE n S d (ab q) = if 1024 < n then 3 else if m = n - 1 then (if (lastsF (ab q) && (allN (fun i => mayF (S i).ab) n && allN (fun i => lastsF (ab d[i]!)) m)) = true then 0 else 6) else 5) := by show _ = _; unfold bakE; rw [hl]
  have HD : Hid (d.size = m) := hl
  clear h h2 hl
  by_cases k1 : 1024 < n
  · have z1 : (1024 : Int) < (n : Int) := by omega
    have HE3 : Hid (bakE n S d (ab q) = 3) := by show _ = _; rw [HE.out, if_pos k1]
    go_enter Try.func12, Try.ntmps12
    go_wp2
    go_ret2
    exact BaR.bad HE3.out (by decide) (Up.refl _)
  have z1 : ¬ (1024 : Int) < (n : Int) := by omega
  rw [if_neg k1] at HE
  have hmax : (if 1 < (n : Int) then (n : Int) - 1 else (0 : Int)) = ((n - 1 : Nat) : Int) := by split <;> omega
  obtain ⟨n1, hn1⟩ : ∃ n1, n - 1 = n1 := ⟨_, rfl⟩
  rw [hn1] at hmax HE
  have HN1 : Hid (n - 1 = n1) := hn1
  clear hn1
  by_cases k2 : m = n1
  case neg =>
    rw [if_neg k2] at HE
    have z2 : ((m : Int) == (n1 : Int)) = false := by rw [beq_eq_false_iff_ne]; omega
    go_enter Try.func12, Try.ntmps12
    go_wp2
    go_ret2
    exact BaR.bad HE.out (by decide) (Up.refl _)
  subst k2
  rw [if_pos rfl] at HE
  have z2 : (n : Int) ≤ 1024 := by omega
  have z3 : (m : Int) ≤ 1024 := by have := HN1.out; omega
  go_enter Try.func12, Try.ntmps12
  go_wp2
  go_loopw [8, 9] (fun vi _ wr => ∃ i : Nat, i ≤ n ∧ vi = .int .i64 i ∧ Hid (Up w wr) ∧ Hid (allN (fun i => mayF (S i).ab) i = true)) (fun vi _ _ => n - (intOf vi).toNat)
  case atStart => exact ⟨0, by omega, rfl, Up.refl _, rfl⟩
  case round =>
    obtain ⟨i, hi, rfl, HU, HA⟩ := hrel
    rename World => wr
    by_cases hlt : i < n
    · obtain ⟨b, o, hp, hr⟩ := HS.out.1.rd (by omega)
      subst hp
      obtain ⟨c0, c1, c2, c3, c4⟩ := (hr i hlt).up HU.out
      obtain ⟨s, hs⟩ : ∃ s, S i = s := ⟨_, rfl⟩
      rw [hs] at c0 c1 c2 c3 c4
      have HX : Hid (S i = s) := hs
      obtain ⟨x, v, a, b', c⟩ := s
      simp only at c0 c1 c2 c3 c4
      have z4 : (i : Int) < (n : Int) := by omega
      clear hr hs
      cases hb : mayF ⟨ab x, ab v, ab a, ab b', ab c⟩
      · have HE6 : Hid (bakE n S d (ab q) = 6) := by
          show _ = _
          rw [HE.out, allN_false (F := fun i => mayF (S i).ab) (i := i) (by show mayF (S i).ab = false; rw [HX.out]; exact hb) n hlt, Bool.false_and, Bool.and_false]; rfl
        go_wp2_with (go_at_call 31; (with_reducible refine (t31 x v a b' c _).mono ?_); rintro e w1 ⟨rfl, U1⟩; rw [hb])
        go_ret2
        exact BaR.bad HE6.out (by decide) (HU.out.trans U1.out)
      · go_wp2_with (go_at_call 31; (with_reducible refine (t31 x v a b' c _).mono ?_); rintro e w1 ⟨rfl, U1⟩; rw [hb])
        go_roundw
        case rel => exact ⟨i + 1, by omega, by go_num, HU.out.trans U1.out, by show (_ && mayF (S i).ab) = true; rw [HA.out, HX.out]; exact hb⟩
        case measure => simp [intOf]; omega
    · obtain rfl : i = n := by omega
      rw [HA.out] at HE
      clear HA
      go_wp2
      go_loopw [10] (fun vi wr' => ∃ i : Nat, i ≤ m ∧ vi = .int .i64 i ∧ wr = wr' ∧ Hid (allN (fun i => lastsF (ab d[i]!)) i = true)) (fun vi _ => m - (intOf vi).toNat)
      case atStart => exact ⟨0, by omega, rfl, rfl, rfl⟩
      case round =>
        obtain ⟨j, hj, rfl, hw, HA⟩ := hrel
        subst hw
        by_cases hlt2 : j < m
        · obtain ⟨b, o, hp, hr⟩ := HS.out.2.rd (by omega)
          subst hp
          have c0 := cell_up (hr j (by rw [HD.out]; exact hlt2)) HU.out
          obtain ⟨x, hx⟩ : ∃ x, d[j]! = x := ⟨_, rfl⟩
          rw [hx] at c0
          have HX : Hid (d[j]! = x) := hx
          have z4 : (j : Int) < (m : Int) := by omega
          clear hr hx
          cases hb : lastsF (ab x)
          · have HE6 : Hid (bakE i S d (ab q) = 6) := by
              show _ = _
              rw [HE.out, allN_false (F := fun i => lastsF (ab d[i]!)) (i := j) (by show lastsF (ab d[j]!) = false; rw [HX.out]; exact hb) m hlt2, Bool.and_false, Bool.and_false]; rfl
            rw [lasts_lt] at hb
            cases hf : fin (ab x)
            · clear hb
              go_wp2_with (go_at_call 32; (with_reducible refine (t32 x _).mono ?_); rintro e w' ⟨rfl, hw⟩; subst w'; rw [hf])
              go_ret2
              exact BaR.bad HE6.out (by decide) HU.out
            · have hlt3 : ltF (ab x) (ab 0) = true := by rw [hf] at hb; simpa using hb
              clear hb
              go_wp2_with (go_at_call 32; (with_reducible refine (t32 x _).mono ?_); rintro e w' ⟨rfl, hw⟩; subst w'; rw [hf])
              go_ret2
              exact BaR.bad HE6.out (by decide) HU.out
          · have HB : Hid (lastsF (ab x) = true) := hb
            rw [lasts_lt] at hb
            simp only [Bool.and_eq_true, Bool.not_eq_true'] at hb
            obtain ⟨hf, hlt3⟩ := hb
            go_wp2_with (go_at_call 32; (with_reducible refine (t32 x _).mono ?_); rintro e w' ⟨rfl, hw⟩; subst w'; rw [hf])
            go_roundw
            case rel => exact ⟨j + 1, by omega, by go_num, by trivial, by show (_ && lastsF (ab d[j]!)) = true; rw [HA.out, HX.out]; exact HB.out⟩
            case measure => simp [intOf]; omega
        · obtain rfl : j = m := by omega
          rw [HA.out] at HE
          clear HA
          cases hb : lastsF (ab q)
          · have HE6 : Hid (bakE i S d (ab q) = 6) := by show _ = _; rw [HE.out, hb]; rfl
            rw [lasts_lt] at hb
            cases hf : fin (ab q)
            · clear hb
              go_wp2_with (go_at_call 32; (with_reducible refine (t32 q _).mono ?_); rintro e w' ⟨rfl, hw⟩; subst w'; rw [hf])
              go_ret2
              exact BaR.bad HE6.out (by decide) HU.out
            · have hlt3 : ltF (ab q) (ab 0) = true := by rw [hf] at hb; simpa using hb
              clear hb
              go_wp2_with (go_at_call 32; (with_reducible refine (t32 q _).mono ?_); rintro e w' ⟨rfl, hw⟩; subst w'; rw [hf])
              go_ret2
              exact BaR.bad HE6.out (by decide) HU.out
          · have HE0 : Hid (bakE i S d (ab q) = 0) := by show _ = _; rw [HE.out, hb]; rfl
            rw [lasts_lt] at hb
            simp only [Bool.and_eq_true, Bool.not_eq_true'] at hb
            obtain ⟨hf, hlt3⟩ := hb
            go_wp2_with (first
              | (go_at_call 32; (with_reducible refine (t32 q _).mono ?_); rintro e w' ⟨rfl, hw⟩; subst w'; rw [hf])
              | (refine wpList_make_full _ rfl _ _ 22 rfl wr.heap.size 27 i0 (.agg #[.float .f64 0, .float .f64 0, .float .f64 0, .float .f64 0, .float .f64 0]) 5 Try.underlying22 hi0 hz0 hz1 .i64 .i64 _ _ i rfl rfl rfl rfl (by rw [hz2]; omega) (by unfold maxLen; omega) (Nat.le_refl _) ?_; intro w2 hown hgr
                 have HO : Hid (SO wr.heap.size w2 (.slice (some ⟨wr.heap.size, 0, none⟩) i i) (List.replicate i Stt.zero)) := (by show World.ownsRow _ _ _ _ _ _ _; rw [List.length_replicate, ← made_st]; exact hown)
                 have U2 : Hid (Up w w2) := RowKit.Below.grown HU.out hgr (RowKit.Below.size HU.out) (fun j hj => by cases hj)
                 clear hown hgr))
            clear hf hlt3 hlt2 hj hlt hi
            have HGG : Hid (w.heap.size ≤ wr.heap.size) := RowKit.Below.size HU.out
            generalize wr.heap.size = g at *
            go_loopw [12] (fun vi wr' => ∃ (z : Int) (k : Nat) (D : List Stt), vi = .int .i64 z ∧ (-1 ≤ z ∧ z ≤ 1023) ∧ Hid (z = (i : Int) - 1 - k ∧ k ≤ i) ∧ Hid (SO g wr' (.slice (some ⟨g, 0, none⟩) i i) D) ∧ Hid (∀ l, l < i → i - k ≤ l → (D.getD l Stt.zero).ab = bkN S d (ab q) (i - 1) (i - 1 - l)) ∧ Hid (Up w wr')) (fun vi _ => ((intOf vi) + 1).toNat)
            case atStart => exact ⟨_, 0, _, rfl, ⟨by omega, by omega⟩, ⟨by omega, by omega⟩, HO, fun l hl hk => by omega, U2⟩
            case round =>
              clear HO U2 HU
              obtain ⟨z, k, D, rfl, ⟨y1, y2⟩, HZ, HO, HA, HU⟩ := hrel
              rename World => wr'
              by_cases hz : 0 ≤ z
              · obtain ⟨r, rfl⟩ := Int.eq_ofNat_of_zero_le hz
                have hr0 : r + 1 + k = i := by have := HZ.out.1; omega
                have hDl := HO.out.len
                obtain ⟨b, o, hp, hr⟩ := HS.out.1.rd (by omega)
                subst hp
                obtain ⟨s, hs⟩ : ∃ s, S r = s := ⟨_, rfl⟩
                have C := (hr r (by omega)).up HU.out
                rw [hs] at C
                have HX : Hid (S r = s) := hs
                clear hr hs
                obtain ⟨x, v, a, b', c⟩ := s
                obtain ⟨c0, c1, c2, c3, c4⟩ := C
                simp only at c0 c1 c2 c3 c4
                have y3 : (r : Int) < (i : Int) := by omega
                by_cases hk0 : k = 0
                · have e1 : ((r : Int) == (i : Int) - 1) = true := by rw [beq_iff_eq]; omega
                  obtain ⟨g9, he9, _, _, Q5⟩ := HO.out.at (i := r) (by omega)
                  simp only [Option.some.injEq, Addr.mk.injEq] at he9
                  obtain ⟨rfl, _⟩ := he9
                  obtain ⟨a0, a1, a2, a3, a4⟩ := Q5
                  have f0 := HO.out.frz (r * 5)
                  have f1 := HO.out.frz (r * 5 + 1)
                  have f2 := HO.out.frz (r * 5 + 2)
                  have f3 := HO.out.frz (r * 5 + 3)
                  have f4 := HO.out.frz (r * 5 + 4)
                  obtain ⟨P1, P2⟩ := HO.out.put (i := r) (by omega) ⟨x, v, a, b', c⟩
                  have P1' : Hid (SO g (((((wr'.setCell ⟨g, r * 5, none⟩ (.float .f64 x)).setCell ⟨g, r * 5 + 1, none⟩ (.float .f64 v)).setCell ⟨g, r * 5 + 2, none⟩ (.float .f64 a)).setCell ⟨g, r * 5 + 3, none⟩ (.float .f64 b')).setCell ⟨g, r * 5 + 4, none⟩ (.float .f64 c)) (.slice (some ⟨g, 0, none⟩) i i) (D.set r ⟨x, v, a, b', c⟩)) := P1
                  have P2' : Hid (But g wr' (((((wr'.setCell ⟨g, r * 5, none⟩ (.float .f64 x)).setCell ⟨g, r * 5 + 1, none⟩ (.float .f64 v)).setCell ⟨g, r * 5 + 2, none⟩ (.float .f64 a)).setCell ⟨g, r * 5 + 3, none⟩ (.float .f64 b')).setCell ⟨g, r * 5 + 4, none⟩ (.float .f64 c))) := P2
                  have HK0 : Hid (k = 0) := hk0
                  clear P1 P2 hk0
                  go_wp2
                  go_roundw
                  case rel =>
                    have hk0 := HK0.out
                    refine ⟨(r : Int) - 1, k + 1, _, rfl, ⟨by omega, by omega⟩, ⟨by omega, by omega⟩, P1', fun l hl hk => ?_, P2'.out.up HU.out HGG.out⟩
                    obtain rfl : l = r := by omega
                    rw [getD_set_eq (by omega), show i - 1 - l = 0 by omega]
                    unfold bkN
                    rw [show i - 1 = l by omega, HX.out]
                  case measure => simp [intOf]
                · have e1 : ((r : Int) == (i : Int) - 1) = false := by rw [beq_eq_false_iff_ne]; omega
                  have hj' : j = i - 1 := HN1.out.symm
                  obtain ⟨b2, o2, hp2, hr2⟩ := HS.out.2.rd (by omega)
                  subst hp2
                  obtain ⟨t, ht⟩ : ∃ t, d[r]! = t := ⟨_, rfl⟩
                  have ct := cell_up (hr2 r (by rw [HD.out]; omega)) HU.out
                  rw [ht] at ct
                  have HT : Hid (d[r]! = t) := ht
                  have y4 : (r : Int) < (j : Int) := by omega
                  have y5 : (r : Int) + 1 < (i : Int) := by omega
                  clear hr2 ht hj'
                  obtain ⟨g', he, _, _, N5⟩ := HO.out.at (i := r + 1) (by omega)
                  simp only [Option.some.injEq, Addr.mk.injEq] at he
                  obtain ⟨rfl, _⟩ := he
                  obtain ⟨nn, hn⟩ : ∃ nn, D.getD (r + 1) Stt.zero = nn := ⟨_, rfl⟩
                  have HN : Hid (D.getD (r + 1) Stt.zero = nn) := hn
                  rw [hn] at N5
                  clear hn
                  obtain ⟨nx, nv, na, nb, nc⟩ := nn
                  obtain ⟨m0, m1, m2, m3, m4⟩ := N5
                  simp only at m0 m1 m2 m3 m4
                  have e0 : ((r : Int) + 1).toNat = r + 1 := by omega
                  have p0 : (0 : Int) ≤ (r : Int) + 1 := by omega
                  have ew : IntKind.i64.wrap ((r : Int) + 1) = (r : Int) + 1 := by rw [IntKind.wrap_i64]; omega
                  go_wp2_with fail
                  refine wp_region_shut 18 [(0, none), (1, none), (2, none), (3, none), (4, none), (5, some false), (6, none), (7, none), (8, none), (9, some false), (10, none), (11, none), (12, none), (13, none), (14, none), (15, some false), (16, some true), (17, none)] (fun w9 => Up wr' w9) (by kernel_rfl) (by decide) rfl (by kernel_rfl) (fun _ _ d _ _ h => by cases d <;> exact h) (Up.drew wr') ?_
                  refine OrdS.looks (.slice (some ⟨g, 0, none⟩) i i) (some 84) _ rfl rfl (Or.inl ⟨by kernel_rfl, fun w' hS => ?_⟩) ?_
                  · go_simp
                  refine OrdS.looks (.int .i64 r) (some 85) _ rfl rfl (Or.inl ⟨by kernel_rfl, fun w' hS => ?_⟩) ?_
                  · go_simp
                  refine OrdS.looks (.slice (some ⟨b, o, none⟩) i cap) (some 86) _ rfl rfl (Or.inl ⟨by kernel_rfl, fun w' hS => ?_⟩) ?_
                  · go_simp
                  refine OrdS.looks (.int .i64 r) (some 87) _ rfl rfl (Or.inl ⟨by kernel_rfl, fun w' hS => ?_⟩) ?_
                  · go_simp
                  refine OrdS.looks (.pointer (some ⟨b, o + r * 5, none⟩)) (some 88) _ rfl rfl (Or.inl ⟨by kernel_rfl, fun w' hS => ?_⟩) ?_
                  · go_simp
                  refine OrdS.reads (.agg #[.float .f64 x, .float .f64 v, .float .f64 a, .float .f64 b', .float .f64 c]) (some 89) _ rfl rfl (Or.inl ⟨by kernel_rfl, fun w' hS => ?_⟩) ?_
                  · have l0 := cell_up c0 hS; have l1 := cell_up c1 hS; have l2 := cell_up c2 hS; have l3 := cell_up c3 hS; have l4 := cell_up c4 hS
                    go_simp
                  refine OrdS.looks (.slice (some ⟨b2, o2, none⟩) j cap2) (some 90) _ rfl rfl (Or.inl ⟨by kernel_rfl, fun w' hS => ?_⟩) ?_
                  · go_simp
                  refine OrdS.looks (.int .i64 r) (some 91) _ rfl rfl (Or.inl ⟨by kernel_rfl, fun w' hS => ?_⟩) ?_
                  · go_simp
                  refine OrdS.looks (.pointer (some ⟨b2, o2 + r, none⟩)) (some 92) _ rfl rfl (Or.inl ⟨by kernel_rfl, fun w' hS => ?_⟩) ?_
                  · go_simp
                  refine OrdS.reads (.float .f64 t) (some 93) _ rfl rfl (Or.inl ⟨by kernel_rfl, fun w' hS => ?_⟩) ?_
                  · have l0 := cell_up ct hS
                    go_simp
                  refine OrdS.looks (.float .f64 q) (some 94) _ rfl rfl (Or.inl ⟨by kernel_rfl, fun w' hS => ?_⟩) ?_
                  · go_simp
                  refine OrdS.looks (.slice (some ⟨g, 0, none⟩) i i) (some 95) _ rfl rfl (Or.inl ⟨by kernel_rfl, fun w' hS => ?_⟩) ?_
                  · go_simp
                  refine OrdS.looks (.int .i64 r) (some 96) _ rfl rfl (Or.inl ⟨by kernel_rfl, fun w' hS => ?_⟩) ?_
                  · go_simp
                  refine OrdS.looks (.int .i64 ((r : Int) + 1)) (some 97) _ rfl rfl (Or.inl ⟨by kernel_rfl, fun w' hS => ?_⟩) ?_
                  · go_simp
                  refine OrdS.looks (.pointer (some ⟨g, (r + 1) * 5, none⟩)) (some 98) _ rfl rfl (Or.inl ⟨by kernel_rfl, fun w' hS => ?_⟩) ?_
                  · go_simp
                  refine OrdS.reads (.agg #[.float .f64 nx, .float .f64 nv, .float .f64 na, .float .f64 nb, .float .f64 nc]) (some 99) _ rfl rfl (Or.inl ⟨by kernel_rfl, fun w' hS => ?_⟩) ?_
                  · have l0 := cell_up m0 hS; have l1 := cell_up m1 hS; have l2 := cell_up m2 hS; have l3 := cell_up m3 hS; have l4 := cell_up m4 hS
                    go_simp
                  simp only [Act.put, List.setIfInBounds_toArray, List.set_cons_succ, List.set_cons_zero]
                  refine OrdS.does ?_
                  refine wpOp_call (f := 33) rfl rfl rfl #[.agg #[.float .f64 x, .float .f64 v, .float .f64 a, .float .f64 b', .float .f64 c], .float .f64 t, .float .f64 q, .agg #[.float .f64 nx, .float .f64 nv, .float .f64 na, .float .f64 nb, .float .f64 nc]] (by kernel_rfl) (eg33 _ _) ?_
                  refine (t33 ⟨x, v, a, b', c⟩ ⟨nx, nv, na, nb, nc⟩ t q _).mono ?_
                  rintro e w6 ⟨rx, rv, ra, rb, rc, rfl, HR, HU5⟩
                  have HU6 : Hid (Up wr' w6) := (Up.drew wr').trans HU5.out
                  refine ⟨_, rfl, HU6.out, ?_⟩
                  refine OrdS.looks (.pointer (some ⟨g, r * 5, none⟩)) (some 101) _ rfl rfl (Or.inl ⟨by kernel_rfl, fun w' hS => ?_⟩) ?_
                  · go_simp
                  refine OrdS.ends ?_
                  simp only [List.drop_succ_cons, List.drop_zero]
                  have HO6 : Hid (SO g w6 (.slice (some ⟨g, 0, none⟩) i i) D) := HO.out.up HU6.out
                  have HU8 : Hid (Up w w6) := HU.out.trans HU6.out
                  obtain ⟨g9, he9, _, _, Q5⟩ := HO6.out.at (i := r) (by omega)
                  simp only [Option.some.injEq, Addr.mk.injEq] at he9
                  obtain ⟨rfl, _⟩ := he9
                  obtain ⟨a0, a1, a2, a3, a4⟩ := Q5
                  have f0 := HO6.out.frz (r * 5)
                  have f1 := HO6.out.frz (r * 5 + 1)
                  have f2 := HO6.out.frz (r * 5 + 2)
                  have f3 := HO6.out.frz (r * 5 + 3)
                  have f4 := HO6.out.frz (r * 5 + 4)
                  clear m0 m1 m2 m3 m4 HO HU HU6 HU5
                  obtain ⟨P1, P2⟩ := HO6.out.put (i := r) (by omega) ⟨rx, rv, ra, rb, rc⟩
                  have P1' : Hid (SO g (((((w6.setCell ⟨g, r * 5, none⟩ (.float .f64 rx)).setCell ⟨g, r * 5 + 1, none⟩ (.float .f64 rv)).setCell ⟨g, r * 5 + 2, none⟩ (.float .f64 ra)).setCell ⟨g, r * 5 + 3, none⟩ (.float .f64 rb)).setCell ⟨g, r * 5 + 4, none⟩ (.float .f64 rc)) (.slice (some ⟨g, 0, none⟩) i i) (D.set r ⟨rx, rv, ra, rb, rc⟩)) := P1
                  have P2' : Hid (But g w6 (((((w6.setCell ⟨g, r * 5, none⟩ (.float .f64 rx)).setCell ⟨g, r * 5 + 1, none⟩ (.float .f64 rv)).setCell ⟨g, r * 5 + 2, none⟩ (.float .f64 ra)).setCell ⟨g, r * 5 + 3, none⟩ (.float .f64 rb)).setCell ⟨g, r * 5 + 4, none⟩ (.float .f64 rc))) := P2
                  clear P1 P2
                  go_wp2
                  go_roundw
                  case rel =>
                    refine ⟨(r : Int) - 1, k + 1, _, rfl, ⟨by omega, by omega⟩, ⟨by omega, by omega⟩, P1', fun l hl hk => ?_, P2'.out.up HU8.out HGG.out⟩
                    by_cases e : l = r
                    · subst e
                      rw [getD_set_eq (by omega)]
                      obtain ⟨e1, e2, e3, e4, e5⟩ := HR.out
                      have hN := HA.out (l + 1) (by omega) (by omega)
                      rw [HN.out] at hN
                      rw [show i - 1 - l = (i - 1 - (l + 1)) + 1 by omega]
                      unfold bkN
                      rw [← hN, show i - 1 - (i - 1 - (l + 1) + 1) = l by omega, HX.out, HT.out]
                      show S5.mk (ab rx) (ab rv) (ab ra) (ab rb) (ab rc) = _
                      rw [e1, e2, e3, e4, e5]
                    · rw [getD_set_ne (fun q => e q.symm)]
                      exact HA.out l hl (by omega)
                  case measure => simp [intOf]
              · have hk : i - k = 0 := by have := HZ.out.1; omega
                go_wp2
                go_ret2
                have hl := HO.out.len
                refine ⟨some ⟨g, 0, none⟩, i, D, ?_, ?_, ?_, ?_, HU⟩
                · rw [HE0.out, hl]; rfl
                · show _ = _; rw [HE0.out, if_pos rfl]; exact hl
                · rw [hl]; exact HO.out.base HGG.out
                · intro l hl'; exact HA.out l (by omega) (by omega)
end Go.Proofs.Ytcgbmcnefolgcaa

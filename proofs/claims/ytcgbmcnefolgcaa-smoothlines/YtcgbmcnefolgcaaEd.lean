/- Turns, the document's. -/
import Derived.Test.YtcgbmcnefolgcaaEb
namespace Go.Proofs.Ytcgbmcnefolgcaa
open Go.ChangeShapes Go.WideShapes Go.ChangeAt Go.RowKit Go.Fl Go.Sort
attribute [local go_sem] run_store_float call22 call54 run_neg fold_eq fold_ne fold_lt fold_gt abs_eq

def absF (x : Option Nat) : Option Nat := x.map Go.Fl.abs
theorem good_abs {x : Option Nat} (h : Good x) : Good (absF x) := fun y hy => by
  unfold absF at hy
  rw [Option.map_eq_some_iff] at hy
  obtain ⟨z, hz, rfl⟩ := hy
  rw [isN_abs]
  exact h z hz
theorem t49f (x : Nat) (w : World) : Calls Try.prog 49 #[.float .f64 x] w (FR w (absF (ab x))) := (t49 x w).mono fun _ _ ⟨h1, h2⟩ => ⟨_, 0, h1, h2, ab_abs x⟩
theorem eg49 (args : Array Value) (w : World) : (callFunc 49 args).run Try.prog w = .ok (.enter 49 args) w := enters Try.func49 (by kernel_rfl) (by kernel_rfl) _ _
set_option maxHeartbeats 8000000 in
set_option maxRecDepth 20000 in
theorem t19ok {w : World} {p p2 : Option Addr} {n cap m cap2 : Nat} {d d2 : Array Nat} (z : Nat) (h : SV w p n cap d) (h2 : SV w p2 m cap2 d2) (hE : lenE n m = 0) (f1 : finL d = true) (f2 : finL d2 = true) (f3 : eqF (ab z) (ab z) = true) : Calls Try.prog 19 #[.slice p n cap, .slice p2 m cap2, .float .f64 z] w (TnR w d d2 (ab z)) := by
  have HE : Hid (turE d d2 (ab z) = if riseB d = true then 0 else 2) := by show _ = _; unfold turE; rw [h.len, h2.len, if_pos hE, f1, f2, f3]; rfl
  obtain ⟨e1, e2⟩ := lenE0 hE
  subst e1
  have B : Hid (SV w p n cap d ∧ SV w p2 n cap2 d2) := ⟨h, h2⟩
  have Z2 : Hid (n ≤ 1000000) := (by omega : n ≤ 1000000)
  have HL : Hid (d.size = n ∧ d2.size = n) := ⟨h.len, h2.len⟩
  have z0 : ¬ (1024 : Int) < (n : Int) := by omega
  have z0' : (n : Int) ≤ 1024 := by omega
  clear h h2 hE
  go_enter Try.func19, Try.ntmps19
  go_wp2_with (first
    | (go_at_call 44; (with_reducible refine (t44 B.out.1 Z2.out).mono ?_); rintro e w' ⟨rfl, hw⟩; subst w'; rw [f1])
    | (go_at_call 44; (with_reducible refine (t44 B.out.2 Z2.out).mono ?_); rintro e w' ⟨rfl, hw⟩; subst w'; rw [f2])
    | (go_at_call 46; (with_reducible refine (t46 _ _).mono ?_); rintro e w' ⟨rfl, hw⟩; subst w'; rw [f3]))
  go_loopw [8] (fun vi wr => ∃ i : Nat, (i + 1 ≤ n ∨ i = 0) ∧ vi = .int .i64 ((i : Int) + 1) ∧ Hid (Up w wr) ∧ Hid (allN (fun i => gtF (ab d[i + 1]!) (ab d[i]!)) i = true)) (fun vi _ => n - (intOf vi).toNat)
  case atStart => exact ⟨0, Or.inr rfl, rfl, Up.refl _, rfl⟩
  case round =>
    obtain ⟨i, hi, rfl, HU, HA⟩ := hrel
    rename World => wr
    by_cases hlt : i + 1 < n
    · obtain ⟨b, o, hp, hr⟩ := B.out.1.rd (by omega)
      subst hp
      have c0 := cell_up (hr i (by have := HL.out.1; omega)) HU.out
      have c1 := cell_up (hr (i + 1) (by have := HL.out.1; omega)) HU.out
      obtain ⟨x, hx⟩ : ∃ x, d[i]! = x := ⟨_, rfl⟩
      obtain ⟨y, hy⟩ : ∃ y, d[i + 1]! = y := ⟨_, rfl⟩
      rw [hx] at c0
      rw [hy] at c1
      have HX : Hid (d[i]! = x ∧ d[i + 1]! = y) := ⟨hx, hy⟩
      have z1 : (i : Int) + 1 < (n : Int) := by omega
      have z2 : (i : Int) < (n : Int) := by omega
      have e0 : ((i : Int) + 1).toNat = i + 1 := by omega
      have p0 : (0 : Int) ≤ (i : Int) + 1 := by omega
      clear hr hx hy
      cases hb : gtF (ab y) (ab x)
      · have hq : riseB d = false := by
          unfold riseB
          exact allN_false (F := fun i => gtF (ab d[i + 1]!) (ab d[i]!)) (i := i) (by show gtF (ab d[i + 1]!) (ab d[i]!) = false; rw [HX.out.1, HX.out.2, hb]) (d.size - 1) (by have := HL.out.1; omega)
        have HE2 : Hid (turE d d2 (ab z) = 2) := by show _ = _; rw [HE.out, hq]; rfl
        clear hq
        go_wp2_with fail
        go_quiet (fail)
        go_wp2
        go_ret2
        exact TnR.bad HE2.out (by decide) (HU.out.dr _)
      · go_wp2_with fail
        go_quiet (fail)
        go_wp2
        go_roundw
        case rel => exact ⟨i + 1, Or.inl (by omega), by go_num, HU.out.dr _, by show (_ && gtF (ab d[i + 1]!) (ab d[i]!)) = true; rw [HA.out, HX.out.1, HX.out.2, hb]; rfl⟩
        case measure => simp [intOf]; omega
    · have z1 : ¬ (i : Int) + 1 < (n : Int) := by omega
      have hq : riseB d = true := by unfold riseB; rw [show d.size - 1 = i by have := HL.out.1; omega]; exact HA.out
      have HE2 : Hid (turE d d2 (ab z) = 0) := by show _ = _; rw [HE.out, hq]; rfl
      clear hq HE HA
      have BR : Hid (SV wr p n cap d ∧ SV wr p2 n cap2 d2) := ⟨B.out.1.up HU.out, B.out.2.up HU.out⟩
      go_wp2
      clear hi hlt z1
      go_loopw [9, 10] (fun vs vi w5 => ∃ (k c : Nat) (pr : Option Addr) (L : List Nat), (k ≤ n - 1) ∧ vs = .slice pr k c ∧ vi = .int .i64 k ∧ Hid (OR fe 24 wr.heap.size w5 (.slice pr k c) L) ∧ Hid (∀ j, j < k → ab (L.getD j 0) = slA d d2 j) ∧ Hid (Up wr w5)) (fun _ vi _ => n - (intOf vi).toNat)
      case atStart => exact ⟨0, 0, none, [], by omega, rfl, rfl, OR.nil _ _ _ _, fun j hj => by omega, Up.refl _⟩
      case round =>
        obtain ⟨k, c, pr, L, hk, rfl, rfl, HO, HV, HU5⟩ := hrel
        rename World => w5
        by_cases hlt : k + 1 < n
        · obtain ⟨b, o, hp, hr⟩ := BR.out.1.rd (by omega)
          subst hp
          obtain ⟨b2, o2, hp2, hr2⟩ := BR.out.2.rd (by omega)
          subst hp2
          have c0 := cell_up (hr k (by have := HL.out.1; omega)) HU5.out
          have c1 := cell_up (hr (k + 1) (by have := HL.out.1; omega)) HU5.out
          have c2 := cell_up (hr2 k (by have := HL.out.2; omega)) HU5.out
          have c3 := cell_up (hr2 (k + 1) (by have := HL.out.2; omega)) HU5.out
          have HSL : Hid (slA d d2 k = slF (ab d[k]!) (ab d[k + 1]!) (ab d2[k]!) (ab d2[k + 1]!)) := rfl
          generalize d[k]! = x at *
          generalize d2[k]! = y at *
          generalize d[k + 1]! = x' at *
          generalize d2[k + 1]! = y' at *
          obtain ⟨j, hj⟩ : ∃ j, k + 1 = j := ⟨_, rfl⟩
          rw [hj] at c1 c3 hlt
          have e1 : (k : Int) + 1 = (j : Int) := by omega
          have z1 : (j : Int) < (n : Int) := by omega
          have z2 : (k : Int) < (n : Int) := by omega
          have ew : IntKind.i64.wrap (j : Int) = (j : Int) := by rw [IntKind.wrap_i64]; omega
          have HJ : Hid (k + 1 = j) := hj
          have hlen := HO.out.len
          have HLL : Hid (L.length ≤ 2000000 ∧ L.length = k) := ⟨by omega, hlen⟩
          clear hr hr2 hj hlen
          go_wp2_with fail
          refine wp_region_sq1 23 22 ((Sq.val (.slice pr k c)) :: (Sq.val (.slice (some ⟨b2, o2, none⟩) n cap2)) :: (Sq.val (.int .i64 k)) :: (Sq.val (.int .i64 j)) :: (Sq.val (.pointer (some ⟨b2, o2 + j, none⟩))) :: (Sq.val (.float .f64 y')) :: (Sq.val (.slice (some ⟨b2, o2, none⟩) n cap2)) :: (Sq.val (.int .i64 k)) :: (Sq.val (.pointer (some ⟨b2, o2 + k, none⟩))) :: (Sq.val (.float .f64 y)) :: (Sq.fl (bin .sub (ab y') (ab y))) :: (Sq.val (.slice (some ⟨b, o, none⟩) n cap)) :: (Sq.val (.int .i64 k)) :: (Sq.val (.int .i64 j)) :: (Sq.val (.pointer (some ⟨b, o + j, none⟩))) :: (Sq.val (.float .f64 x')) :: (Sq.val (.slice (some ⟨b, o, none⟩) n cap)) :: (Sq.val (.int .i64 k)) :: (Sq.val (.pointer (some ⟨b, o + k, none⟩))) :: (Sq.val (.float .f64 x)) :: (Sq.fl (bin .sub (ab x') (ab x))) :: (Sq.fl (bin .quo (bin .sub (ab y') (ab y)) (bin .sub (ab x') (ab x)))) :: (Sq.val (.slice (some ⟨(w5).heap.size, 0, none⟩) 1 1)) :: []) (MkF (w5) (slF (ab x) (ab x') (ab y) (ab y'))) (by decide) (by kernel_rfl) (by decide) rfl (by kernel_rfl) ⟨good_val _, good_val _, good_val _, good_val _, good_val _, good_val _, good_val _, good_val _, good_val _, good_val _, good_fl (good_bin _ _ _), good_val _, good_val _, good_val _, good_val _, good_val _, good_val _, good_val _, good_val _, good_val _, good_fl (good_bin _ _ _), good_fl (good_bin _ _ _), good_val _, trivial⟩ (MkF.start _ _) ?_
          intro rs hF
          obtain ⟨_, _, _, _, _, _, _, _, _, _, h10, _, _, _, _, _, _, _, _, _, h20, h21, _, _⟩ := hF
          simp only [List.take_succ_cons, List.take_zero, valsQ, FillL, Act.put, List.setIfInBounds_toArray, List.set_cons_succ, List.set_cons_zero, Nat.zero_add, Nat.reduceAdd]
          refine ⟨⟨fun b => SqO.is rfl (fun w hw => by go_simp),
            fun b => SqO.is rfl (fun w hw => by go_simp),
            fun b => SqO.is rfl (fun w hw => by go_simp),
            fun b => SqO.is rfl (fun w hw => by go_simp),
            fun b => SqO.is rfl (fun w hw => by go_simp),
            fun b => SqO.is rfl (fun w hw => by have z9 := up_cell hw.1 c3; go_simp),
            fun b => SqO.is rfl (fun w hw => by go_simp),
            fun b => SqO.is rfl (fun w hw => by go_simp),
            fun b => SqO.is rfl (fun w hw => by go_simp),
            fun b => SqO.is rfl (fun w hw => by have z9 := up_cell hw.1 c2; go_simp),
            fun b => SqO.of (LoosO.st (MkF.on _ _ b) rfl rfl (Or.inr (Or.inl rfl)) y' y rfl rfl rfl rfl),
            fun b => SqO.is rfl (fun w hw => by go_simp),
            fun b => SqO.is rfl (fun w hw => by go_simp),
            fun b => SqO.is rfl (fun w hw => by go_simp),
            fun b => SqO.is rfl (fun w hw => by go_simp),
            fun b => SqO.is rfl (fun w hw => by have z9 := up_cell hw.1 c1; go_simp),
            fun b => SqO.is rfl (fun w hw => by go_simp),
            fun b => SqO.is rfl (fun w hw => by go_simp),
            fun b => SqO.is rfl (fun w hw => by go_simp),
            fun b => SqO.is rfl (fun w hw => by have z9 := up_cell hw.1 c0; go_simp),
            fun b => SqO.of (LoosO.st (MkF.on _ _ b) rfl rfl (Or.inr (Or.inl rfl)) x' x rfl rfl rfl rfl),
            fun b => SqO.of (LoosO.st (MkF.on _ _ b) rfl rfl (Or.inr (Or.inr (Or.inr rfl))) (rs 10).x (rs 20).x rfl rfl h10.out h20.out),
            MkF.mk (r := (rs 21).x) rfl h21.out (fun w => by go_simp), trivial⟩, ?_⟩
          rintro w9 ⟨U9, r9, R9, Z9⟩
          simp only [List.drop_succ_cons, List.drop_zero]
          have HO6 : Hid (OR fe 24 wr.heap.size w9 (.slice pr k c) L) := HO.out.up U9
          have HU6 : Hid (Up wr w9) := HU5.out.trans U9
          have HK : Hid (ab r9 = slA d d2 k) := by show _ = _; rw [HSL.out]; exact R9
          have HZ : Hid (w9.heap[w5.heap.size]? = some (.cells #[.float .f64 r9] 24)) := Z9
          clear R9 Z9 U9 h10 h20 h21
          go_wp2_with (at_builtin; refine wpList_pushG (w0 := wr) rfl _ _ rfl pr k c L r9 w5.heap.size rfl rfl HZ.out HO6.out HU6.out HLL.out.1 ?_; intro pr' c' w7 HO7 HU7)
          go_roundw
          case rel =>
            refine ⟨k + 1, c', pr', _, by omega, rfl, by rw [← HJ.out], HO7, fun i hi => ?_, HU7⟩
            by_cases e : i < k
            · rw [getD_app_lt (by rw [HLL.out.2]; exact e)]; exact HV.out i e
            · obtain rfl : i = k := by omega
              rw [getD_app_eq HLL.out.2]; exact HK.out
          case measure => simp [intOf]; omega
        · have z1 : ¬ (k : Int) + 1 < (n : Int) := by omega
          have HKN : Hid (k = n - 1) := (by omega : k = n - 1)
          go_wp2
          clear hlt z1 hk
          go_loopw [11, 12] (fun vs vi w8 => ∃ (q j m c' : Nat) (pr' : Option Addr), (q ≤ n - 2) ∧ vs = .slice pr' m c' ∧ vi = .int .i64 j ∧ Hid (j = q + 1) ∧ Hid (OR ie 3 w5.heap.size w8 (.slice pr' m c') (turnN d d2 (ab z) q)) ∧ Hid (Up w5 w8)) (fun _ vi _ => n - (intOf vi).toNat)
          case atStart => exact ⟨0, 1, 0, 0, none, by omega, rfl, rfl, rfl, OR.nil _ _ _ _, Up.refl _⟩
          case round =>
            obtain ⟨q, j, m, c', pr', hq, rfl, rfl, HJ, HO8, HU8⟩ := hrel
            rename World => w8
            have hj := HJ.out
            have hk' := HKN.out
            by_cases hlt : q + 2 < n
            · have z1 : (j : Int) < (k : Int) := by omega
              have z2 : (q : Int) < (k : Int) := by omega
              have e1 : (j : Int) - 1 = (q : Int) := by omega
              have ew : IntKind.i64.wrap (q : Int) = (q : Int) := by rw [IntKind.wrap_i64]; omega
              have hlen := HO.out.len
              have O8 := HO.out.up HU8.out
              obtain ⟨p0, c0', e0, hg⟩ := O8.form
              obtain ⟨g, hg⟩ := hg (by omega)
              simp only [Value.slice.injEq] at e0
              have hpg := e0.1.trans hg
              subst hpg
              have c1 := OR.cellD O8 (i := j) (by omega)
              have c2 := OR.cellD O8 (i := q) (by omega)
              have V1 : Hid (ab (L.getD j 0) = slA d d2 (q + 1)) := by rw [← hj]; exact HV.out j (by omega)
              have V2 : Hid (ab (L.getD q 0) = slA d d2 q) := HV.out q (by omega)
              clear e0 hg hlen
              generalize L.getD j 0 = x1 at *
              generalize L.getD q 0 = x2 at *
              have hm := turnN_len d d2 (ab z) q
              have HM : Hid ((turnN d d2 (ab z) q).length ≤ 2000000) := (by omega : _ ≤ _)
              clear hm hj hk' O8
              go_wp2_with fail
              refine wp_region_sp 12 [.val (.slice (some ⟨g, 0, none⟩) k c), .val (.int .i64 j), .val (.pointer (some ⟨g, j, none⟩)), .val (.float .f64 x1), .val (.slice (some ⟨g, 0, none⟩) k c), .val (.int .i64 j), .val (.int .i64 q), .val (.pointer (some ⟨g, q, none⟩)), .val (.float .f64 x2), .fl (bin .sub (ab x1) (ab x2)), .fl (absF (bin .sub (ab x1) (ab x2))), .val (.float .f64 z)] (DrW _) (by kernel_rfl) (by decide) rfl (by kernel_rfl) ⟨good_bin _ _ _, good_abs (good_bin _ _ _), trivial⟩ (DrW.start _) ?_
              intro rs hF
              obtain ⟨h9, h10, _⟩ := hF
              simp only [List.take_succ_cons, List.take_zero, valsL, FillL, Act.put, List.setIfInBounds_toArray, List.set_cons_succ, List.set_cons_zero, Nat.zero_add, Nat.reduceAdd]
              refine ⟨⟨LoosO.is rfl (fun w hw => by obtain ⟨N, rfl⟩ := hw; go_simp),
                LoosO.is rfl (fun w hw => by obtain ⟨N, rfl⟩ := hw; go_simp),
                LoosO.is rfl (fun w hw => by obtain ⟨N, rfl⟩ := hw; go_simp),
                LoosO.is rfl (fun w hw => by obtain ⟨N, rfl⟩ := hw; go_simp),
                LoosO.is rfl (fun w hw => by obtain ⟨N, rfl⟩ := hw; go_simp),
                LoosO.is rfl (fun w hw => by obtain ⟨N, rfl⟩ := hw; go_simp),
                LoosO.is rfl (fun w hw => by obtain ⟨N, rfl⟩ := hw; go_simp),
                LoosO.is rfl (fun w hw => by obtain ⟨N, rfl⟩ := hw; go_simp),
                LoosO.is rfl (fun w hw => by obtain ⟨N, rfl⟩ := hw; go_simp),
                LoosO.st (DrW.on _) rfl rfl (Or.inr (Or.inl rfl)) x1 x2 rfl rfl rfl rfl,
                LoosO.call (DrW.on _) rfl rfl #[.float .f64 (rs 9)] (by kernel_rfl) (eg49 _) (fun w => by rw [← h9.out]; exact t49f (rs 9) w),
                LoosO.is rfl (fun w hw => by obtain ⟨N, rfl⟩ := hw; go_simp), trivial⟩, ?_⟩
              rintro w9 ⟨N9, rfl⟩
              simp only [List.drop_succ_cons, List.drop_zero]
              have HK : Hid (gtF (ab (rs 10)) (ab z) = turnB d d2 (ab z) q) := by
                have e : ab (rs 10) = absF (bin .sub (ab x1) (ab x2)) := h10.out
                show _ = _
                rw [e, V1.out, V2.out]; rfl
              clear h9 h10
              generalize rs 10 = r at *
              have HO9 : Hid (OR ie 3 w5.heap.size (w8.drew.drewN N9) (.slice pr' m c') (turnN d d2 (ab z) q)) := HO8.out.up ((Up.drew _).dr _)
              have HU9 : Hid (Up w5 (w8.drew.drewN N9)) := HU8.out.trans ((Up.drew _).dr _)
              generalize w8.drew.drewN N9 = w9 at *
              cases hb : turnB d d2 (ab z) q
              · have HB : Hid (turnB d d2 (ab z) q = false) := hb
                have hgt : gtF (ab r) (ab z) = false := by rw [HK.out, hb]
                clear hb
                go_wp2
                go_roundw
                case rel => exact ⟨q + 1, j + 1, m, c', pr', by omega, rfl, by go_num, by show _ = _; rw [HJ.out], by show OR _ _ _ _ _ _; unfold turnN; rw [if_neg (by rw [HB.out]; decide)]; exact HO9.out, HU9⟩
                case measure => simp [intOf]; omega
              · have HB : Hid (turnB d d2 (ab z) q = true) := hb
                have hgt : gtF (ab r) (ab z) = true := by rw [HK.out, hb]
                clear hb
                go_wp2_with (at_builtin; (refine wpList_push (enc := ie) (y := j) info3 rfl (by decide) Try.underlying38 rfl _ _ rfl pr' m c' _ rfl rfl rfl HO9.out HU9.out HM.out ?_); intro p5 c5 w10 HO10 HU10)
                go_roundw
                case rel => exact ⟨q + 1, j + 1, m + 1, c5, p5, by omega, rfl, by go_num, by show _ = _; rw [HJ.out], by show OR _ _ _ _ _ _; unfold turnN; rw [if_pos HB.out, ← HJ.out]; exact HO10.out, HU10⟩
                case measure => simp [intOf]; omega
            · have z1 : ¬ (j : Int) < (k : Int) := by omega
              have hqn : q = n - 2 := by omega
              go_wp2
              go_ret2
              have hD : turD d d2 (ab z) = turnN d d2 (ab z) q := by unfold turD; rw [HE2.out, HL.out.1, hqn]; rfl
              refine ⟨pr', c', ?_, ?_, HU.out.trans (HU5.out.trans HU8.out)⟩
              · rw [HE2.out, hD, HO8.out.len]; rfl
              · rw [hD, HO8.out.len]; exact HO8.out.base (RowKit.Below.size (HU.out.trans HU5.out))
theorem t19fin {w : World} {p p2 : Option Addr} {n cap m cap2 : Nat} {d d2 : Array Nat} (z : Nat) (h : SV w p n cap d) (h2 : SV w p2 m cap2 d2) (hE : lenE n m = 0) (hF : (finL d && finL d2 && eqF (ab z) (ab z)) = false) : Calls Try.prog 19 #[.slice p n cap, .slice p2 m cap2, .float .f64 z] w (TnR w d d2 (ab z)) := by
  have S1 : Hid _ := h
  have S2 : Hid _ := h2
  have HL : Hid (turE d d2 (ab z) = 6) := by show _ = _; unfold turE; rw [h.len, h2.len, if_pos hE, hF]; rfl
  obtain ⟨e1, e2⟩ := lenE0 hE
  subst e1
  have z2 : ¬ (1024 : Int) < (n : Int) := by omega
  have Z2 : Hid (n ≤ 1000000) := (by omega : n ≤ 1000000)
  clear h h2 hE
  cases f1 : finL d
  · go_enter Try.func19, Try.ntmps19
    go_wp2_with (go_at_call 44; (with_reducible refine (t44 S1.out Z2.out).mono ?_); rintro e w' ⟨rfl, hw⟩; subst w'; rw [f1])
    go_ret2
    exact TnR.bad HL.out (by decide) (Up.refl _)
  · cases f2 : finL d2
    · go_enter Try.func19, Try.ntmps19
      go_wp2_with (first | (go_at_call 44; (with_reducible refine (t44 S1.out Z2.out).mono ?_); rintro e w' ⟨rfl, hw⟩; subst w'; rw [f1]) | (go_at_call 44; (with_reducible refine (t44 S2.out Z2.out).mono ?_); rintro e w' ⟨rfl, hw⟩; subst w'; rw [f2]))
      go_ret2
      exact TnR.bad HL.out (by decide) (Up.refl _)
    · have f3 : eqF (ab z) (ab z) = false := by rw [f1, f2] at hF; simpa using hF
      go_enter Try.func19, Try.ntmps19
      go_wp2_with (first | (go_at_call 44; (with_reducible refine (t44 S1.out Z2.out).mono ?_); rintro e w' ⟨rfl, hw⟩; subst w'; rw [f1]) | (go_at_call 44; (with_reducible refine (t44 S2.out Z2.out).mono ?_); rintro e w' ⟨rfl, hw⟩; subst w'; rw [f2]) | (go_at_call 46; (with_reducible refine (t46 _ _).mono ?_); rintro e w' ⟨rfl, hw⟩; subst w'; rw [f3]))
      go_ret2
      exact TnR.bad HL.out (by decide) (Up.refl _)
theorem t19len {w : World} {p p2 : Option Addr} {n cap m cap2 : Nat} {d d2 : Array Nat} (z : Nat) (h : SV w p n cap d) (h2 : SV w p2 m cap2 d2) (hE : lenE n m ≠ 0) : Calls Try.prog 19 #[.slice p n cap, .slice p2 m cap2, .float .f64 z] w (TnR w d d2 (ab z)) := by
  have HL : Hid (turE d d2 (ab z) = lenE n m) := by show _ = _; unfold turE; rw [h.len, h2.len, if_neg hE]
  clear h h2
  by_cases e : n = m
  · subst e
    have k : 1024 < n := by
      unfold lenE at hE
      rw [if_pos rfl] at hE
      exact Decidable.of_not_not fun q => hE (by rw [if_neg q])
    have k1 : (1024 : Int) < (n : Int) := by omega
    have HL3 : Hid (turE d d2 (ab z) = 3) := by show _ = _; rw [HL.out]; unfold lenE; rw [if_pos rfl, if_pos k]
    go_enter Try.func19, Try.ntmps19
    go_wp2
    go_ret2
    exact TnR.bad HL3.out (by decide) (Up.refl _)
  · have k1 : ((n : Int) == (m : Int)) = false := by rw [beq_eq_false_iff_ne]; omega
    have HL3 : Hid (turE d d2 (ab z) = 5) := by show _ = _; rw [HL.out]; unfold lenE; rw [if_neg e]
    go_enter Try.func19, Try.ntmps19
    go_wp2
    go_ret2
    exact TnR.bad HL3.out (by decide) (Up.refl _)
theorem t19 {w : World} {p p2 : Option Addr} {n cap m cap2 : Nat} {d d2 : Array Nat} (z : Nat) (h : SV w p n cap d) (h2 : SV w p2 m cap2 d2) : Calls Try.prog 19 #[.slice p n cap, .slice p2 m cap2, .float .f64 z] w (TnR w d d2 (ab z)) := by
  by_cases hE : lenE n m = 0
  · cases hF : (finL d && finL d2 && eqF (ab z) (ab z))
    · exact t19fin z h h2 hE hF
    · simp only [Bool.and_eq_true] at hF
      exact t19ok z h h2 hE hF.1.1 hF.1.2 hF.2
  · exact t19len z h h2 hE
end Go.Proofs.Ytcgbmcnefolgcaa

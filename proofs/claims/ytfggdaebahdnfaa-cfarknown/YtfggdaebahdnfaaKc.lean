/- Map, the program's, of what may be. -/
import Derived.Test.YtfggdaebahdnfaaKb
namespace Go.Proofs.Ytfggdaebahdnfaa
open Go.ChangeShapes Go.WideShapes Go.ChangeAt Go.RowKit Go.Fl Go.Sort
attribute [local go_sem] run_store_float run_store_func call35 call46 run_neg fold_eq fold_ne fold_lt fold_gt abs_eq

set_option maxRecDepth 20000 in
set_option maxHeartbeats 4000000 in
theorem t17ok {w : World} {p : Option Addr} {n cap x : Nat} {D : Nat → Array Nat} {way : Int} (g t m : Int) (h1 : -128 ≤ way) (h2 : way ≤ 127) (h : MV w p n cap D) (hE1 : mapE n D = 0) (hE2 : refE g t m x = 0) :
    Calls Try.prog 17 #[.slice p n cap, .int .i8 way, .int .i64 g, .int .i64 t, .int .i64 m, .float .f64 x] w (MR w (echoD way g.toNat t.toNat m.toNat (ab x)) n D g t m x) := by
  have H : Hid (MV w p n cap D) := h
  obtain ⟨i0, hi0, hz0, hz1, hz2⟩ := info_parts info44
  obtain ⟨hn, hsm⟩ := mapE_small hE1
  obtain ⟨hm, _⟩ := refE_may hE2
  have HE : Hid (mapE n D = 0 ∧ refE g t m x = 0) := ⟨hE1, hE2⟩
  simp only [mayF, Bool.and_eq_true, decide_eq_true_eq] at hm
  obtain ⟨⟨⟨g0, g1⟩, t0, t1⟩, m0, m1⟩ := hm
  obtain ⟨G, rfl⟩ := Int.eq_ofNat_of_zero_le g0
  obtain ⟨T, rfl⟩ := Int.eq_ofNat_of_zero_le (show 0 ≤ t by omega)
  obtain ⟨M, rfl⟩ := Int.eq_ofNat_of_zero_le m0
  simp only [Int.toNat_natCast]
  obtain ⟨F, hF⟩ : ∃ F, echoD way G T M (ab x) = F := ⟨_, rfl⟩
  rw [hF]
  have C40 : Hid (∀ W, Up w W → Calls Try.prog 40 #[.slice p n cap] W fun e w' => e = .returned (.int .i64 0) ∧ w' = W) := fun W hu => hE1 ▸ t40 (H.out.up hu)
  have C37 : Hid (∀ f W, Calls Try.prog 37 #[.agg #[f, .int .i64 G, .int .i64 T, .int .i64 M], .float .f64 x] W fun e w' => e = .returned (.int .i64 0) ∧ Hid (Up W w')) := fun f W => hE2 ▸ t37 f G T M x W
  have C38 : Hid (∀ f W i K q c, i < n → K < (D i).size → SV W q (D i).size c (D i) → Lev W way f → Calls Try.prog 38 #[.agg #[f, .int .i64 G, .int .i64 T, .int .i64 M], .slice q (D i).size c, .int .i64 K, .float .f64 x] W (EB W (F (D i) K))) := fun f W i K q c hi hK hv hl => hF ▸ t38 hl hv (hsm i hi) hK (by omega) (by omega)
  have HSM : Hid (∀ i, i < n → (D i).size ≤ 16384) := hsm
  clear g0 g1 t0 t1 m0 m1 hE1 hE2 h hF hsm
  go_enter Try.func17, Try.ntmps17
  go_wp2_with (first
    | (go_at_call 30; (with_reducible refine (chosen30 h1 h2 _).mono ?_); rintro e w1 ⟨fk, fa, fb, rfl, HL, HU⟩)
    | (go_at_call 40; (with_reducible refine (C40.out _ (HU.out.trans (Up.alloc _ _))).mono ?_); rintro e w' ⟨rfl, hw⟩; subst w')
    | (go_at_call 37; (with_reducible refine (C37.out _ _).mono ?_); rintro e w2 ⟨rfl, HU2⟩; have HX : Hid (BX w1.heap.size (.func fk fa fb) G T M w2) := (BX.new w1 _ _ _ _).up HU2.out))
  have HLW : Hid (Lev w2 way (.func fk fa fb)) := HL.out.up ((Up.alloc _ _).trans HU2.out)
  have HUW : Hid (Up w w2) := (HU.out.trans (Up.alloc _ _)).trans HU2.out
  clear HL HU HU2 C40 C37
  go_loopw [17, 41] (fun v vi wr => ∃ (i N c : Nat) (q : Option Addr) (L : List Spt), v = .slice q N c ∧ vi = .int .i64 i ∧ i ≤ n ∧ N ≤ 4096 ∧ Hid (L.length = N) ∧ Hid (L = spAll F D i) ∧ Hid (SO w2.heap.size wr (.slice q N c) L) ∧ Hid (Up w2 wr)) (fun _ vi _ => n - (intOf vi).toNat)
  case atStart => exact ⟨0, 0, 0, none, [], rfl, rfl, by omega, by omega, rfl, rfl, SO.nil _ _, Up.refl _⟩
  case round =>
    obtain ⟨i, N, c, q, L, rfl, rfl, hin, hN, HN, HL, HO, HU⟩ := hrel
    rename World => W
    by_cases hlt : i < n
    · obtain ⟨b, o, hpe, hr⟩ := H.out.rd (by omega)
      subst hpe
      obtain ⟨q1, c1, k1, k2⟩ := hr i hlt
      have SR : Hid (SV w q1 (D i).size c1 (D i)) := k2
      have k1' := cell_up k1 (HUW.out.trans HU.out)
      have hz : (D i).size ≤ 16384 := HSM.out i hlt
      obtain ⟨d, hd⟩ : ∃ d, D i = d := ⟨_, rfl⟩
      have C38i : Hid (∀ f W K q c, K < d.size → SV W q d.size c d → Lev W way f → Calls Try.prog 38 #[.agg #[f, .int .i64 G, .int .i64 T, .int .i64 M], .slice q d.size c, .int .i64 K, .float .f64 x] W (EB W (F d K))) := fun f W K q c hK hv hl => by
        have := C38.out f W i K q c hlt (by rw [hd]; exact hK) (by rw [hd]; exact hv) hl
        rw [hd] at this; exact this
      rw [hd] at k1' hz SR
      have HD : Hid (D i = d) := hd
      clear hd k1 k2 hr
      obtain ⟨z, hzz⟩ : ∃ z, d.size = z := ⟨_, rfl⟩
      rw [hzz] at k1' hz SR C38i
      have HZ : Hid _ := hzz
      clear hzz
      have hl3 : (i : Int) < (n : Int) := by omega
      go_wp2
      go_loopw [17, 48] (fun v vi wr => ∃ (k N c : Nat) (q : Option Addr) (L : List Spt), v = .slice q N c ∧ vi = .int .i64 k ∧ k ≤ z ∧ N ≤ 4096 ∧ Hid (L.length = N) ∧ Hid (L = spAll F D i ++ spRow F i d k) ∧ Hid (SO w2.heap.size wr (.slice q N c) L) ∧ Hid (Up w2 wr)) (fun _ vi _ => z - (intOf vi).toNat)
      case atStart => exact ⟨0, N, c, q, L, rfl, rfl, by omega, hN, HN, by show L = _; rw [HL.out]; simp [spRow], HO, HU⟩
      case round =>
        clear HL HO HU HN hN k1'
        obtain ⟨k, N, c, q, L, rfl, rfl, hkz, hN, HN, HL, HO, HU⟩ := hrel
        rename World => W2
        by_cases hkl : k < z
        · obtain ⟨b2, o2, hpe, hr⟩ := SR.out.rd (by omega)
          subst hpe
          obtain ⟨y, hy⟩ : ∃ y, d[k]! = y := ⟨_, rfl⟩
          have cy := cell_up (hr k (by rw [HZ.out]; exact hkl)) (HUW.out.trans HU.out)
          rw [hy] at cy
          have HY : Hid _ := hy
          have hk3 : (k : Int) < (z : Int) := by omega
          clear hr hy
          obtain ⟨x0, x1, x2, x3⟩ := HX.out.up HU.out
          obtain ⟨f, hf⟩ : ∃ f, F d k = f := ⟨_, rfl⟩
          have HF : Hid _ := hf
          have C38k : Hid (Calls Try.prog 38 #[.agg #[.func fk fa fb, .int .i64 G, .int .i64 T, .int .i64 M], .slice (some ⟨b2, o2, none⟩) z c1, .int .i64 k, .float .f64 x] W2 (EB W2 f)) := by
            have := C38i.out _ W2 k _ _ hkl (SR.out.up (HUW.out.trans HU.out)) (HLW.out.up HU.out)
            rw [hf] at this; exact this
          clear hf
          cases f
          · go_wp2_with (go_at_call 38; (with_reducible refine C38k.out.mono ?_); rintro e w4 ⟨rfl, HU4⟩)
            go_roundw
            case rel =>
              refine ⟨k + 1, N, c, q, L, rfl, by go_num, by omega, hN, HN, ?_, HO.out.up HU4.out, HU.out.trans HU4.out⟩
              show _ = _
              rw [HL.out]
              show _ = spAll F D i ++ (spRow F i d k ++ (if F d k = true then _ else _))
              rw [HF.out]; simp
            case measure => simp [intOf]; omega
          · by_cases hfull : N = 4096
            · subst hfull
              go_wp2_with (go_at_call 38; (with_reducible refine C38k.out.mono ?_); rintro e w4 ⟨rfl, HU4⟩)
              go_ret2
              refine MR.bad ?_ (by decide) ((HUW.out.trans HU.out).trans HU4.out)
              have hm := sp_most F D hlt (k := k) (by rw [HD.out, HZ.out]; exact hkl) (by rw [HD.out]; exact HF.out) (by rw [HD.out, ← HL.out]; exact HN.out)
              unfold mpE
              rw [if_neg (by rw [HE.out.1]; simp), if_neg (by rw [HE.out.2]; simp), if_pos hm]
            · have hb : ((N : Int) == 4096) = false := by rw [beq_eq_false_iff_ne]; omega
              go_wp2_with (first
                | (go_at_call 38; (with_reducible refine C38k.out.mono ?_); rintro e w4 ⟨rfl, HU4⟩; (have sz : w2.heap.size ≤ w4.heap.size := RowKit.Below.size (HU.out.trans HU4.out)); (have hown : w4.ownsRow w2.heap.size 44 3 (.slice q N c) N (L.flatMap spC) := by have := HO.out.up HU4.out; unfold SO at this; rw [HN.out] at this; exact this))
                | (at_builtin; refine wpList_append_own _ rfl _ _ 40 rfl w2.heap.size 44 i0 (.agg #[.int .i64 0, .int .i64 0, .float .f64 0]) 3 24 Try.underlying40 hi0 hz0 hz1 hz2 rfl (by decide) _ _ _ rfl (hown.alloc _) ⟨w4.heap.size, 0, none⟩ 1 1 [.int .i64 i, .int .i64 k, .float .f64 y] rfl rfl (three_new _ _ _ _ _) (three_one rfl rfl rfl) (by unfold maxLen; omega) (by omega) (by simp; omega) ?_))
              intro v' w6 hown' hgrow _
              have R3 := so_push (s := (i, k, y)) (Nat.le_refl _) HN.out hown (HU.out.trans HU4.out) hown' hgrow
              have U6 : Hid (Up w2 w6) := R3.2
              obtain ⟨p', c', hv, _⟩ := own_form hown'
              subst hv
              have HO3 : Hid (SO w2.heap.size w6 (.slice p' (N + 1) c') (L ++ [(i, k, y)])) := R3.1
              clear hown' hgrow hown R3
              go_wp2
              go_roundw
              case rel =>
                refine ⟨k + 1, N + 1, c', p', L ++ [(i, k, y)], rfl, by go_num, by omega, by omega, by show _ = _; rw [List.length_append, HN.out]; rfl, ?_, HO3, U6⟩
                show _ = _
                rw [HL.out]
                show _ = spAll F D i ++ (spRow F i d k ++ (if F d k = true then _ else _))
                rw [HF.out, if_pos rfl, HY.out, List.append_assoc]
              case measure => simp [intOf]; omega
        · have hke : z = k := by omega
          subst hke
          go_wp2
          go_roundw
          case rel =>
            refine ⟨i + 1, N, c, q, L, rfl, by go_num, by omega, hN, HN, ?_, HO, HU⟩
            show _ = spAll F D i ++ spRow F i (D i) (D i).size
            rw [HD.out, HZ.out]; exact HL.out
          case measure => simp [intOf]; omega
    · have hie : n = i := by omega
      subst hie
      go_wp2
      go_ret2
      exact MR.ok HE.out.1 HE.out.2 HL.out HN.out hN (HO.out.base (RowKit.Below.size HUW.out)) (HUW.out.trans HU.out)
theorem t17 {w : World} {p : Option Addr} {n cap x : Nat} {D : Nat → Array Nat} {way : Int} (g t m : Int) (h1 : -128 ≤ way) (h2 : way ≤ 127) (h : MV w p n cap D) :
    Calls Try.prog 17 #[.slice p n cap, .int .i8 way, .int .i64 g, .int .i64 t, .int .i64 m, .float .f64 x] w (MR w (echoD way g.toNat t.toNat m.toNat (ab x)) n D g t m x) := by
  by_cases hE : mapE n D ≠ 0 ∨ refE g t m x ≠ 0
  · exact t17bad g t m h1 h2 h hE
  · exact t17ok g t m h1 h2 h (by omega) (by omega)
end Go.Proofs.Ytfggdaebahdnfaa

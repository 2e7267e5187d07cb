/- Level and Line, the document's. -/
import Derived.Test.YtfggdaebahdnfaaIb
namespace Go.Proofs.Ytfggdaebahdnfaa
open Go.ChangeShapes Go.WideShapes Go.ChangeAt Go.RowKit Go.Fl Go.Sort
attribute [local go_sem] run_store_float run_store_func call35 call46 run_neg fold_eq fold_ne fold_lt fold_gt abs_eq

theorem t33k {g t m : Int} {b : Bool} (h : mayF g t m = b) (w : World) : Calls Try.prog 33 #[.int .i64 g, .int .i64 t, .int .i64 m] w fun e w' => e = .returned (.bool b) ∧ w' = w := h ▸ t33 g t m w
theorem t39k {x : Nat} {b : Bool} (h : fin (ab x) = b) (w : World) : Calls Try.prog 39 #[.float .f64 x] w fun e w' => e = .returned (.bool b) ∧ w' = w := h ▸ t39 x w
set_option maxHeartbeats 1000000 in
theorem t12 {w : World} {p : Option Addr} {n cap : Nat} {d : Array Nat} {way : Int} (g t m k : Int) (h1 : -128 ≤ way) (h2 : way ≤ 127) (h : SV w p n cap d) :
    Calls Try.prog 12 #[.slice p n cap, .int .i64 k, .int .i8 way, .int .i64 g, .int .i64 t, .int .i64 m] w (LR w way g t m k d) := by
  have H : Hid (SV w p n cap d) := h
  clear h
  by_cases hn : 16384 < n
  · have q : (16384 : Int) < (n : Int) := by omega
    go_enter Try.func12, Try.ntmps12
    go_wp2
    go_ret2
    refine LR.bad ?_ (by decide) (Up.refl _)
    unfold levE; rw [if_pos (by rw [H.out.len]; exact hn)]
  · obtain ⟨b, hb⟩ : ∃ b, mayF g t m = b := ⟨_, rfl⟩
    have HB : Hid (mayF g t m = b) := hb
    have HN : Hid (¬ 16384 < n) := hn
    have q : ¬ (16384 : Int) < (n : Int) := by omega
    clear hb
    cases b
    · go_enter Try.func12, Try.ntmps12
      go_wp2_with (go_at_call 33; (with_reducible refine (t33k HB.out _).mono ?_); rintro e w' ⟨rfl, hw⟩; subst w')
      go_ret2
      refine LR.bad ?_ (by decide) (Up.refl _)
      unfold levE; rw [if_neg (by rw [H.out.len]; exact hn), if_pos (Or.inl HB.out)]
    · by_cases hk : k < 0 ∨ (n : Int) ≤ k
      · have HK : Hid _ := hk
        rcases hk with hk | hk
        · go_enter Try.func12, Try.ntmps12
          go_wp2_with (go_at_call 33; (with_reducible refine (t33k HB.out _).mono ?_); rintro e w' ⟨rfl, hw⟩; subst w')
          go_ret2
          refine LR.bad ?_ (by decide) (Up.refl _)
          unfold levE; rw [if_neg (by rw [H.out.len]; exact hn), if_pos (Or.inr (by rw [H.out.len]; exact HK.out))]
        · have hk0 : ¬ k < 0 := by omega
          go_enter Try.func12, Try.ntmps12
          go_wp2_with (go_at_call 33; (with_reducible refine (t33k HB.out _).mono ?_); rintro e w' ⟨rfl, hw⟩; subst w')
          go_ret2
          refine LR.bad ?_ (by decide) (Up.refl _)
          unfold levE; rw [if_neg (by rw [H.out.len]; exact hn), if_pos (Or.inr (by rw [H.out.len]; exact HK.out))]
      · have hm := HB.out
        simp only [mayF, Bool.and_eq_true, decide_eq_true_eq] at hm
        obtain ⟨⟨⟨g0, g1⟩, t0, t1⟩, m0, m1⟩ := hm
        obtain ⟨G, rfl⟩ := Int.eq_ofNat_of_zero_le g0
        obtain ⟨T, rfl⟩ := Int.eq_ofNat_of_zero_le (show 0 ≤ t by omega)
        obtain ⟨M, rfl⟩ := Int.eq_ofNat_of_zero_le m0
        obtain ⟨K, rfl⟩ := Int.eq_ofNat_of_zero_le (show 0 ≤ k by omega)
        have hK : K < n := by omega
        have k0 : ¬ (n : Int) ≤ (K : Int) := by omega
        have C34 : Hid (Calls Try.prog 34 #[.slice p n cap, .int .i64 K, .int .i8 way, .int .i64 G, .int .i64 T, .int .i64 M] w (FU w (lvD way G T M d K))) := t34 h1 h2 H.out (by omega) hK (by omega) (by omega)
        clear g0 g1 t0 t1 m0 m1 hk
        go_enter Try.func12, Try.ntmps12
        go_wp2_with (first
          | (go_at_call 33; (with_reducible refine (t33k HB.out _).mono ?_); rintro e w' ⟨rfl, hw⟩; subst w')
          | (go_at_call 34; (with_reducible refine C34.out.mono ?_); rintro e w3 ⟨r, rfl, hr, HU3⟩))
        go_ret2
        have e0 : levE d.size (G : Int) T M K = 0 := by
          unfold levE; rw [if_neg (by rw [H.out.len]; exact HN.out), if_neg]
          rw [HB.out, H.out.len]; simp; omega
        refine ⟨r, by rw [e0]; rfl, ?_, HU3⟩
        show _ = _
        unfold levR
        rw [e0, if_pos rfl]
        exact hr.out
set_option maxHeartbeats 1000000 in
theorem t16bad {w : World} {p : Option Addr} {n cap x : Nat} {d : Array Nat} {way : Int} (g t m : Int) (h : d.size = n) (hE : linE n g t m x ≠ 0) :
    Calls Try.prog 16 #[.slice p n cap, .int .i8 way, .int .i64 g, .int .i64 t, .int .i64 m, .float .f64 x] w (LN w way g t m x d) := by
  have H : Hid (d.size = n) := h
  have HE : Hid (linE n g t m x ≠ 0) := hE
  clear h hE
  by_cases hn : 16384 < n
  · have q : (16384 : Int) < (n : Int) := by omega
    go_enter Try.func16, Try.ntmps16
    go_wp2
    go_ret2
    refine LN.bad ?_ (by decide) (Up.refl _)
    unfold linE; rw [if_pos (by rw [H.out]; exact hn)]
  · have q : ¬ (16384 : Int) < (n : Int) := by omega
    obtain ⟨b, hb⟩ : ∃ b, mayF g t m = b := ⟨_, rfl⟩
    have HB : Hid (mayF g t m = b) := hb
    clear hb
    cases b
    · go_enter Try.func16, Try.ntmps16
      go_wp2_with (go_at_call 33; (with_reducible refine (t33k HB.out _).mono ?_); rintro e w' ⟨rfl, hw⟩; subst w')
      go_ret2
      refine LN.bad ?_ (by decide) (Up.refl _)
      unfold linE refE; rw [if_neg (by rw [H.out]; exact hn), if_pos HB.out]
    · obtain ⟨b, hb⟩ : ∃ b, fin (ab x) = b := ⟨_, rfl⟩
      have HF : Hid (fin (ab x) = b) := hb
      clear hb
      cases b
      · go_enter Try.func16, Try.ntmps16
        go_wp2_with (first
          | (go_at_call 33; (with_reducible refine (t33k HB.out _).mono ?_); rintro e w' ⟨rfl, hw⟩; subst w')
          | (go_at_call 39; (with_reducible refine (t39k HF.out _).mono ?_); rintro e w' ⟨rfl, hw⟩; subst w'))
        go_ret2
        refine LN.bad ?_ (by decide) (Up.refl _)
        unfold linE refE; rw [if_neg (by rw [H.out]; exact hn), if_neg (by rw [HB.out]; decide), if_neg (by rw [HF.out]; decide)]
      · exfalso
        refine HE.out ?_
        unfold linE refE; rw [if_neg hn, if_neg (by rw [HB.out]; decide), if_pos HF.out]
/-- A row of truths gets one more. -/
theorem br_push {w wr w1 : World} {v v' : Value} {x : Bool} {m b : Nat} {O : List Bool} (hb : w.heap.size ≤ b) (hown : wr.ownsRow b 4 1 v m (O.map Value.bool)) (hbel : Up w wr) {c : Array Value} {t : TypeId}
    (hown' : w1.ownsRow b 4 1 v' (m + 1) (O.map Value.bool ++ [.bool x])) (hg : (wr.alloc (.cells c t)).grownBy w1 v.ownBlock) :
    w1.ownsRow b 4 1 v' (m + 1) ((O ++ [x]).map Value.bool) ∧ Up w w1 := by
  refine ⟨by rw [List.map_append]; exact hown', ?_⟩
  have hs : w.heap.size ≤ wr.heap.size := RowKit.Below.size hbel
  exact (RowKit.Below.alloc hbel hs _).grown hg (by simp; omega) (fun j hj => Nat.le_trans hb (hown.lt j hj).1)
theorem linL_step (way : Int) (G T M : Nat) (x : Option Nat) (d : Array Nat) (i : Nat) : (List.range (i + 1)).map (echoD way G T M x d) = (List.range i).map (echoD way G T M x d) ++ [echoD way G T M x d i] := by
  rw [List.range_succ, List.map_append]; rfl
set_option maxHeartbeats 2000000 in
theorem t16ok {w : World} {p : Option Addr} {n cap x : Nat} {d : Array Nat} {way : Int} (g t m : Int) (h1 : -128 ≤ way) (h2 : way ≤ 127) (h : SV w p n cap d) (hE : linE n g t m x = 0) :
    Calls Try.prog 16 #[.slice p n cap, .int .i8 way, .int .i64 g, .int .i64 t, .int .i64 m, .float .f64 x] w (LN w way g t m x d) := by
  have H : Hid (SV w p n cap d) := h
  obtain ⟨i0, hi0, hz0, hz1, hz2⟩ := info_parts info4
  have hn : n ≤ 16384 := by
    unfold linE at hE
    by_cases q : 16384 < n
    · rw [if_pos q] at hE; cases hE
    · omega
  have hR : refE g t m x = 0 := by
    unfold linE at hE
    rwa [if_neg (by omega)] at hE
  obtain ⟨hm, hf⟩ := refE_may hR
  have HM : Hid (mayF g t m = true ∧ fin (ab x) = true) := ⟨hm, hf⟩
  have HE : Hid (linE d.size g t m x = 0) := by show _ = _; rw [h.len]; exact hE
  simp only [mayF, Bool.and_eq_true, decide_eq_true_eq] at hm
  obtain ⟨⟨⟨g0, g1⟩, t0, t1⟩, m0, m1⟩ := hm
  obtain ⟨G, rfl⟩ := Int.eq_ofNat_of_zero_le g0
  obtain ⟨T, rfl⟩ := Int.eq_ofNat_of_zero_le (show 0 ≤ t by omega)
  obtain ⟨M, rfl⟩ := Int.eq_ofNat_of_zero_le m0
  have C34 : Hid (∀ W K, K < n → Up w W → Calls Try.prog 34 #[.slice p n cap, .int .i64 K, .int .i8 way, .int .i64 G, .int .i64 T, .int .i64 M] W (FU W (lvD way G T M d K))) := fun W K hK hu => t34 h1 h2 (H.out.up hu) hn hK (by omega) (by omega)
  have q : ¬ (16384 : Int) < (n : Int) := by omega
  clear g0 g1 t0 t1 m0 m1 hR hE h hf
  go_enter Try.func16, Try.ntmps16
  go_wp2_with (first
    | (go_at_call 33; (with_reducible refine (t33k HM.out.1 _).mono ?_); rintro e w' ⟨rfl, hw⟩; subst w')
    | (go_at_call 39; (with_reducible refine (t39k HM.out.2 _).mono ?_); rintro e w' ⟨rfl, hw⟩; subst w'))
  go_loopw [14, 15, 16, 17] (fun v vi _ _ wr => ∃ (i c : Nat) (q : Option Addr) (O : List Bool), v = .slice q i c ∧ vi = .int .i64 i ∧ i ≤ n ∧ Hid (O = (List.range i).map (echoD way G T M (ab x) d)) ∧ Hid (wr.ownsRow w.heap.size 4 1 (.slice q i c) i (O.map Value.bool)) ∧ Hid (Up w wr)) (fun _ vi _ _ _ => n - (intOf vi).toNat)
  case atStart => exact ⟨0, 0, none, [], rfl, rfl, by omega, rfl, World.ownsRow_nil _ _ _ _, Up.refl _⟩
  case round =>
    obtain ⟨i, c, q, O, rfl, rfl, hin, HO, HW, HUW⟩ := hrel
    rename World => W
    by_cases hlt : i < n
    · obtain ⟨blk, off, hpe, hr⟩ := H.out.rd (by omega)
      subst hpe
      obtain ⟨y, hy⟩ : ∃ y, d[i]! = y := ⟨_, rfl⟩
      have CY : Hid (w.cell? ⟨blk, off + i, none⟩ = some (.float .f64 y)) := by
        have := hr i (by rw [H.out.len]; exact hlt)
        rw [hy] at this; exact this
      have HY : Hid _ := hy
      clear hy hr
      have hl3 : (i : Int) < (n : Int) := by omega
      go_wp2_with (first
        | ((with_reducible refine upon_fl (by simp) ?_); intro r2 k2 hr2; (have HU5 : Hid (Up w (w4.drewN k2)) := (HUW.out.trans HU4.out).trans (Up.drewN _ _)); (have cy := cell_up CY.out HU5.out); (have hown : (w4.drewN k2).ownsRow w.heap.size 4 1 (.slice q i c) i (O.map Value.bool) := owns_up HW.out (HU4.out.trans (Up.drewN _ _))); (have sz : w.heap.size ≤ (w4.drewN k2).heap.size := RowKit.Below.size HU5.out); generalize w4.drewN k2 = w5 at *)
        | (go_at_call 34; (with_reducible refine (C34.out _ i hlt HUW.out).mono ?_); rintro e w4 ⟨r, rfl, hr, HU4⟩)
        | (at_builtin; refine wpList_append_own _ rfl _ _ 35 rfl w.heap.size 4 i0 (.bool false) 1 1 Try.underlying35 hi0 hz0 hz1 hz2 rfl (by decide) _ _ _ rfl (hown.alloc _) ⟨w5.heap.size, 0, none⟩ 1 1 [.bool (gtF (ab y) (ab r2))] rfl rfl (one_new _ _ _) (one_cellV rfl) (by unfold maxLen; omega) (by omega) (by simp; omega) ?_))
      intro v' w6 hown' hgrow _
      have hg : gtF (ab y) (ab r2) = echoD way G T M (ab x) d i := by unfold echoD; rw [HY.out, ← hr.out, ← hr2.out]
      have R3 := br_push (Nat.le_refl _) hown HU5.out hown' hgrow
      obtain ⟨p', c', hv, _⟩ := own_form R3.1
      subst hv
      have HO3 : Hid (w6.ownsRow w.heap.size 4 1 (.slice p' (i + 1) c') (i + 1) ((O ++ [gtF (ab y) (ab r2)]).map Value.bool)) := R3.1
      have HU3 : Hid (Up w w6) := R3.2
      have HG : Hid _ := hg
      clear hown' hgrow hown R3 HW HUW cy hg
      go_wp2
      go_roundw
      case rel =>
        refine ⟨i + 1, c', p', O ++ [gtF (ab y) (ab r2)], rfl, by go_num, by omega, ?_, HO3, HU3⟩
        show _ = _
        rw [linL_step, HO.out, HG.out]
      case measure => simp [intOf]; omega
    · have hie : n = i := by omega
      subst hie
      go_wp2
      go_ret2
      have hD : linD way (G : Int) T M x d = O := by
        unfold linD; rw [if_pos HE.out, HO.out]
        show linL way G T M (ab x) d = _
        unfold linL
        rw [H.out.len]
      have hl : O.length = n := by rw [HO.out]; simp
      refine ⟨q, c, ?_, ?_, HUW⟩
      · rw [hD, HE.out, hl]; rfl
      · rw [hD, hl]
        show OR _ _ _ _ _ _
        unfold OR
        rw [hl]; exact HW.out
theorem t16 {w : World} {p : Option Addr} {n cap x : Nat} {d : Array Nat} {way : Int} (g t m : Int) (h1 : -128 ≤ way) (h2 : way ≤ 127) (h : SV w p n cap d) :
    Calls Try.prog 16 #[.slice p n cap, .int .i8 way, .int .i64 g, .int .i64 t, .int .i64 m, .float .f64 x] w (LN w way g t m x d) := by
  by_cases hE : linE n g t m x = 0
  · exact t16ok g t m h1 h2 h hE
  · exact t16bad g t m h.len hE
end Go.Proofs.Ytfggdaebahdnfaa

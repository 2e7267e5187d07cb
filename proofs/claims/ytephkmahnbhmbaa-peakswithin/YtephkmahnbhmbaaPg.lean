/- Highest: the walk. -/
import Derived.Test.YtephkmahnbhmbaaPf
namespace Go.Proofs.Ytephkmahnbhmbaa
open Go.ChangeShapes Go.WideShapes Go.ChangeAt Go.RowKit Go.Fl Go.Sort
attribute [local go_sem] run_store_float call52 run_neg fold_eq fold_ne fold_lt fold_gt abs_eq eqg57

/-- Is a cell one of the highest? -/
def topB (D : Nat → Array Nat) (n G b g : Nat) : Bool := gtF (ab (D b)[g]!) (ab 0) && !outF D n G b g
/-- The highest cells of the first gates of a row; of the first rows. -/
def topRow (D : Nat → Array Nat) (n G b : Nat) : Nat → List Spt
  | 0 => []
  | k + 1 => topRow D n G b k ++ (if topB D n G b k = true then [((b : Int), (k : Int), (D b)[k]!)] else [])
def topAll (D : Nat → Array Nat) (n G : Nat) : Nat → List Spt
  | 0 => []
  | i + 1 => topAll D n G i ++ topRow D n G i G
def highF (D : Nat → Array Nat) (n : Nat) : List Spt := topAll D n (shortF D n) n
theorem topRow_len (D : Nat → Array Nat) (n G b k : Nat) : (topRow D n G b k).length ≤ k := by
  induction k with
  | zero => exact Nat.le_refl _
  | succ k ih => rw [topRow, List.length_append]; split <;> simp <;> omega
theorem topAll_len (D : Nat → Array Nat) (n G i : Nat) : (topAll D n G i).length ≤ i * G := by
  induction i with
  | zero => exact Nat.zero_le _
  | succ i ih =>
    rw [topAll, List.length_append, Nat.add_mul, Nat.one_mul]
    have := topRow_len D n G i G
    omega
/-- What a call leaves that hands back a row of spots of its own. -/
def SR (w : World) (L : List Spt) (e : Ending) (w' : World) : Prop := ∃ p c, e = .returned (.slice p L.length c) ∧ Hid (SO w.heap.size w' (.slice p L.length c) L) ∧ Hid (Up w w')
set_option maxRecDepth 20000 in
set_option maxHeartbeats 4000000 in
theorem t9 {w : World} {p : Option Addr} {n cap : Nat} {D : Nat → Array Nat} (h : MV w p n cap D) (hsz : n * shortF D n ≤ 1000000000000) : Calls Try.prog 9 #[.slice p n cap] w (SR w (highF D n)) := by
  have H : Hid (MV w p n cap D) := h
  obtain ⟨i0, hi0, hz0, hz1, hz2⟩ := info_parts info29
  have hfew := h.few
  obtain ⟨G, hG⟩ : ∃ G, shortF D n = G := ⟨_, rfl⟩
  have HG : Hid (shortF D n = G) := hG
  have C28 : Hid (Calls Try.prog 28 #[.slice p n cap] w fun e w' => e = .returned (.int .i64 G) ∧ w' = w) := hG ▸ t28 h
  have HGl : Hid (∀ i, i < n → G ≤ (D i).size) := fun i hi => hG ▸ short_le hi
  have hG60 : G ≤ 1152921504606846976 := by
    rcases Nat.eq_zero_or_pos n with q | q
    · subst q; rw [← hG]; exact Nat.zero_le _
    · exact Nat.le_trans (HGl.out 0 q) (h.small 0 q)
  rw [hG] at hsz
  have HSZ : Hid (n * G ≤ 1000000000000) := hsz
  obtain ⟨l, hl⟩ : ∃ l : Int, (G : Int) - 1 = l := ⟨_, rfl⟩
  have HL0 : Hid ((G : Int) - 1 = l) := hl
  have C29 : Hid (∀ W b g, Up w W → b < n → g < G → Calls Try.prog 29 #[.slice p n cap, .agg #[.int .i64 n, .int .i64 l], .agg #[.int .i64 b, .int .i64 g]] W fun e w' => e = .returned (.bool (outF D n G b g)) ∧ Hid (Up W w')) := fun W b g hu hb hg => hl ▸ t29 (H.out.up hu) hb hg HGl.out
  have wl : IntKind.i64.wrap l = l := by rw [IntKind.wrap_i64]; omega
  clear h hG hsz
  go_enter Try.func9, Try.ntmps9
  go_wp2_with (first
    | (go_at_call 28; (with_reducible refine C28.out.mono ?_); rintro e w' ⟨rfl, hw⟩; subst w'))
  have X0 := (two_cells w (.int .i64 (n : Int)) (.int .i64 l) 54).1
  have X1 := (two_cells w (.int .i64 (n : Int)) (.int .i64 l) 54).2
  have HU0 : Hid (Up w (w.alloc (.cells #[.int .i64 (n : Int), .int .i64 l] 54))) := Up.alloc _ _
  have HX : Hid _ := And.intro X0 X1
  generalize w.alloc (.cells #[.int .i64 (n : Int), .int .i64 l] 54) = W0 at *
  generalize hN : w.heap.size = N at *
  clear X0 X1 C28
  go_loopw [5, 6, 7, 8, 9, 19] (fun v _ _ _ _ vi wr => ∃ (i M c : Nat) (q : Option Addr) (L : List Spt), v = .slice q M c ∧ vi = .int .i64 i ∧ i ≤ n ∧ M ≤ 1000000000000 ∧ Hid (L.length = M) ∧ Hid (L = topAll D n G i) ∧ Hid (SO W0.heap.size wr (.slice q M c) L) ∧ Hid (Up W0 wr)) (fun _ _ _ _ _ vi _ => n - (intOf vi).toNat)
  case atStart => exact ⟨0, 0, 0, none, [], rfl, rfl, by omega, by omega, rfl, rfl, SO.nil _ _, Up.refl _⟩
  case round =>
    obtain ⟨i, M, c, q, L, rfl, rfl, hin, hM, HM, HL, HO, HU⟩ := hrel
    rename World => W
    by_cases hlt : i < n
    · obtain ⟨mb, mo, hpe, hr⟩ := H.out.rd (by omega)
      subst hpe
      obtain ⟨q1, c1, k1, k2⟩ := hr i hlt
      have SRr : Hid (SV w q1 (D i).size c1 (D i)) := k2
      have k1' := cell_up k1 (HU0.out.trans HU.out)
      have hzG := HGl.out i hlt
      have hzc := k2.cap
      obtain ⟨d, hd⟩ : ∃ d, D i = d := ⟨_, rfl⟩
      obtain ⟨z, hz⟩ : ∃ z, d.size = z := ⟨_, rfl⟩
      rw [hd, hz] at k1' hzG hzc SRr
      have HD : Hid (D i = d ∧ d.size = z) := ⟨hd, hz⟩
      clear hd hz k1 k2 hr
      have hl3 : (i : Int) < (n : Int) := by omega
      have hcG : G ≤ c1 := by omega
      go_wp2
      go_loopw [5, 8, 9, 28] (fun v _ _ vi wr => ∃ (k M c : Nat) (q : Option Addr) (L : List Spt), v = .slice q M c ∧ vi = .int .i64 k ∧ k ≤ G ∧ M ≤ 1000000000000 ∧ Hid (L.length = M) ∧ Hid (L = topAll D n G i ++ topRow D n G i k) ∧ Hid (SO W0.heap.size wr (.slice q M c) L) ∧ Hid (Up W0 wr)) (fun _ _ _ vi _ => G - (intOf vi).toNat)
      case atStart => exact ⟨0, M, c, q, L, rfl, rfl, by omega, hM, HM, by show L = _; rw [HL.out]; simp [topRow], HO, HU⟩
      case round =>
        clear HL HO HU HM hM k1'
        obtain ⟨k, M, c, q, L, rfl, rfl, hkG, hM, HM, HL, HO, HU⟩ := hrel
        rename World => W2
        by_cases hkl : k < G
        · obtain ⟨b2, o2, hpe, hr⟩ := SRr.out.rd (by omega)
          subst hpe
          obtain ⟨y, hy⟩ : ∃ y, d[k]! = y := ⟨_, rfl⟩
          have cy := cell_up (hr k (by rw [HD.out.2]; omega)) (HU0.out.trans HU.out)
          rw [hy] at cy
          have HY : Hid ((D i)[k]! = y) := by show _ = _; rw [HD.out.1, hy]
          have hk3 : (k : Int) < (G : Int) := by omega
          have hMl : M + 1 ≤ 1000000000000 := by
            have l1 := topAll_len D n G i
            have l2 := topRow_len D n G i k
            have l3 := HM.out
            rw [HL.out, List.length_append] at l3
            have l4 := Nat.mul_le_mul_right G (show i + 1 ≤ n by omega)
            have l5 := HSZ.out
            rw [Nat.add_mul, Nat.one_mul] at l4
            omega
          clear hr hy
          have x0 := cell_up HX.out.1 HU.out
          have x1 := cell_up HX.out.2 HU.out
          obtain ⟨f, hf⟩ : ∃ f, outF D n G i k = f := ⟨_, rfl⟩
          have C29k : Hid (Calls Try.prog 29 #[.slice (some ⟨mb, mo, none⟩) n cap, .agg #[.int .i64 n, .int .i64 l], .agg #[.int .i64 i, .int .i64 k]] W2 fun e w' => e = .returned (.bool f) ∧ Hid (Up W2 w')) := hf ▸ C29.out W2 i k (HU0.out.trans HU.out) hlt hkl
          obtain ⟨t, ht⟩ : ∃ t, gtF (ab y) (ab 0) = t := ⟨_, rfl⟩
          have HT : Hid (topB D n G i k = (t && !f)) := by show _ = _; unfold topB; rw [HY.out, ht, hf]
          clear hf
          cases t
          · go_wp2
            go_roundw
            case rel =>
              refine ⟨k + 1, M, c, q, L, rfl, by go_num, by omega, hM, HM, ?_, HO, HU⟩
              show _ = _
              rw [HL.out, topRow, HT.out]; simp
            case measure => simp [intOf]; omega
          · cases f
            · go_wp2_with (first
                | (go_at_call 29; (with_reducible refine C29k.out.mono ?_); rintro e w4 ⟨rfl, HU4⟩; (have sz : W0.heap.size ≤ w4.heap.size := RowKit.Below.size (HU.out.trans HU4.out)); (have hown : w4.ownsRow W0.heap.size 29 3 (.slice q M c) M (L.flatMap spC) := by have := HO.out.up HU4.out; unfold SO at this; rw [HM.out] at this; exact this))
                | (at_builtin; refine wpList_append_own _ rfl _ _ 25 rfl W0.heap.size 29 i0 (.agg #[.int .i64 0, .int .i64 0, .float .f64 0]) 3 24 Try.underlying25 hi0 hz0 hz1 hz2 rfl (by decide) _ _ _ rfl (hown.alloc _) ⟨w4.heap.size, 0, none⟩ 1 1 [.int .i64 i, .int .i64 k, .float .f64 y] rfl rfl (three_new _ _ _ _ _) (three_one rfl rfl rfl) (by unfold maxLen; omega) (by omega) (by simp; omega) ?_))
              intro v' w6 hown' hgrow _
              have R3 := so_push (s := (i, k, y)) (Nat.le_refl _) HM.out hown (HU.out.trans HU4.out) hown' hgrow
              have U6 : Hid (Up W0 w6) := R3.2
              obtain ⟨p', c', hv, _⟩ := own_form hown'
              subst hv
              have S6 : Hid (SO W0.heap.size w6 (.slice p' (M + 1) c') (L ++ [((i : Int), (k : Int), y)])) := R3.1
              clear R3 hown' hgrow hown HO
              go_wp2
              go_roundw
              case rel =>
                refine ⟨k + 1, M + 1, c', p', L ++ [((i : Int), (k : Int), y)], rfl, by go_num, by omega, hMl, by show _ = _; rw [List.length_append, HM.out]; rfl, ?_, S6, U6⟩
                show _ = _
                rw [HL.out, topRow, HT.out, HY.out]; simp
              case measure => simp [intOf]; omega
            · go_wp2_with (first
                | (go_at_call 29; (with_reducible refine C29k.out.mono ?_); rintro e w4 ⟨rfl, HU4⟩))
              go_roundw
              case rel =>
                refine ⟨k + 1, M, c, q, L, rfl, by go_num, by omega, hM, HM, ?_, HO.out.up HU4.out, HU.out.trans HU4.out⟩
                show _ = _
                rw [HL.out, topRow, HT.out]; simp
              case measure => simp [intOf]; omega
        · obtain rfl : k = G := by omega
          go_wp2
          go_roundw
          case rel => exact ⟨i + 1, M, c, q, L, rfl, by go_num, by omega, hM, HM, by show _ = _; rw [HL.out, topAll], HO, HU⟩
          case measure => simp [intOf]; omega
    · obtain rfl : i = n := by omega
      go_wp2
      go_ret
      have e : highF D i = L := by unfold highF; rw [HG.out, HL.out]
      rw [e]
      refine ⟨q, c, by rw [HM.out]; rfl, ?_, HU0.out.trans HU.out⟩
      rw [HM.out]
      exact HO.out.base (by rw [hN]; have := RowKit.Below.size HU0.out; omega)
end Go.Proofs.Ytephkmahnbhmbaa

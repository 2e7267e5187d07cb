/- The document's Highest: the cells about a cell. -/
import Derived.Test.YtephkmahnbhmbaaVg
namespace Go.Proofs.Ytephkmahnbhmbaa
open Go.ChangeShapes Go.WideShapes Go.ChangeAt Go.RowKit Go.Fl Go.Sort
attribute [local go_sem] run_store_float call52 run_neg fold_eq fold_ne fold_lt fold_gt abs_eq
set_option maxRecDepth 20000
/-- The bin that stands i - 1 on, round. -/
def arB (n b i : Nat) : Nat := (b + i + n - 1) % n
def arC (D : Nat → Array Nat) (n G b g i k : Nat) : List Spt := if 1 ≤ g + k ∧ g + k - 1 < G then [((arB n b i : Int), ((g + k - 1 : Nat) : Int), (D (arB n b i))[g + k - 1]!)] else []
def arRow (D : Nat → Array Nat) (n G b g i : Nat) : Nat → List Spt
  | 0 => []
  | k + 1 => arRow D n G b g i k ++ arC D n G b g i k
def arAll (D : Nat → Array Nat) (n G b g : Nat) : Nat → List Spt
  | 0 => []
  | i + 1 => arAll D n G b g i ++ arRow D n G b g i 3
def arF (D : Nat → Array Nat) (n G b g : Nat) : List Spt := arAll D n G b g 3
theorem arC_len (D : Nat → Array Nat) (n G b g i k : Nat) : (arC D n G b g i k).length ≤ 1 := by unfold arC; split <;> simp
theorem arRow_len (D : Nat → Array Nat) (n G b g i : Nat) : ∀ k, (arRow D n G b g i k).length ≤ k
  | 0 => Nat.le_refl _
  | k + 1 => by
    have h1 := arRow_len D n G b g i k
    have h2 := arC_len D n G b g i k
    rw [arRow, List.length_append]; omega
theorem arAll_len (D : Nat → Array Nat) (n G b g : Nat) : ∀ i, (arAll D n G b g i).length ≤ i * 3
  | 0 => Nat.le_refl _
  | i + 1 => by
    have h1 := arAll_len D n G b g i
    have h2 := arRow_len D n G b g i 3
    rw [arAll, List.length_append]; omega
theorem arB_lt {n b i : Nat} (h : b < n) : arB n b i < n := Nat.mod_lt _ (by omega)
theorem arB_int {n b i : Nat} (h : b < n) : ((b : Int) + ((i : Int) - 1) + (n : Int)).tmod (n : Int) = (arB n b i : Int) := by
  have e : (b : Int) + ((i : Int) - 1) + (n : Int) = ((b + i + n - 1 : Nat) : Int) := by omega
  rw [e]
  unfold arB
  rw [Int.ofNat_tmod]
set_option maxHeartbeats 4000000 in
theorem t30 {w : World} {p : Option Addr} {n cap G b g : Nat} {D : Nat → Array Nat} (h : MV w p n cap D) (hb : b < n) (hg : g < G) (hG : ∀ i, i < n → G ≤ (D i).size) : Calls Try.prog 30 #[.slice p n cap, .int .i64 b, .int .i64 g, .int .i64 G] w (SR w (arF D n G b g)) := by
  have H : Hid (MV w p n cap D) := h
  obtain ⟨i0, hi0, hz0, hz1, hz2⟩ := info_parts info29
  have hfew := h.few
  have hG60 : G ≤ 1152921504606846976 := Nat.le_trans (hG 0 (by omega)) (h.small 0 (by omega))
  have HGl : Hid (∀ i, i < n → G ≤ (D i).size) := hG
  have hn0 : ((n : Int) == 0) = false := by rw [beq_eq_false_iff_ne]; omega
  have hn1 : ¬ (n : Int) = 0 := by omega
  clear h hG
  go_enter Try.func30, Try.ntmps30
  go_wp2
  go_loopw [9, 10, 11, 12, 13] (fun v9 v10 _ _ _ wr => ∃ (i M c : Nat) (z : Int) (q : Option Addr) (L : List Spt), v9 = .slice q M c ∧ v10 = .int .i64 z ∧ (-1 ≤ z ∧ z ≤ 2) ∧ Hid (z = (i : Int) - 1) ∧ M ≤ 9 ∧ Hid (L.length = M) ∧ Hid (L = arAll D n G b g i) ∧ Hid (SO w.heap.size wr (.slice q M c) L) ∧ Hid (Up w wr)) (fun _ v10 _ _ _ _ => (2 - intOf v10).toNat)
  case atStart => exact ⟨0, 0, 0, -1, none, [], rfl, rfl, by omega, by show (-1 : Int) = ((0 : Nat) : Int) - 1; omega, by omega, rfl, rfl, SO.nil _ _, Up.refl _⟩
  case round =>
    obtain ⟨i, M, c, z, q, L, rfl, rfl, ⟨hz1', hz2'⟩, HZ, hM, HM, HL, HO, HU⟩ := hrel
    rename World => W
    by_cases hlt : z ≤ 1
    · obtain ⟨x, hx⟩ : ∃ x, arB n b i = x := ⟨_, rfl⟩
      have HX : Hid (arB n b i = x) := hx
      have hxn : x < n := by rw [← hx]; exact arB_lt hb
      have ex : ((b : Int) + z + (n : Int)).tmod (n : Int) = (x : Int) := by rw [HZ.out, arB_int hb, hx]
      clear hx
      go_wp2
      go_loopw [9, 11, 12, 13] (fun v9 v11 _ _ wr => ∃ (k M c : Nat) (u : Int) (q : Option Addr) (L : List Spt), v9 = .slice q M c ∧ v11 = .int .i64 u ∧ (-1 ≤ u ∧ u ≤ 2) ∧ Hid (u = (k : Int) - 1) ∧ M ≤ 9 ∧ Hid (L.length = M) ∧ Hid (L = arAll D n G b g i ++ arRow D n G b g i k) ∧ Hid (SO w.heap.size wr (.slice q M c) L) ∧ Hid (Up w wr)) (fun _ v11 _ _ _ => (2 - intOf v11).toNat)
      case atStart => exact ⟨0, M, c, -1, q, L, rfl, rfl, by omega, by show (-1 : Int) = ((0 : Nat) : Int) - 1; omega, hM, HM, by show L = _; rw [HL.out]; simp [arRow], HO, HU⟩
      case round =>
        clear HL HO HU HM hM
        obtain ⟨k, M, c, u, q, L, rfl, rfl, ⟨hu1, hu2⟩, HK, hM, HM, HL, HO, HU⟩ := hrel
        rename World => W2
        by_cases hku : u ≤ 1
        · obtain ⟨yi, hyi⟩ : ∃ yi, (g : Int) + u = yi := ⟨_, rfl⟩
          have HYI : Hid ((g : Int) + u = yi) := hyi
          have by1 : -1 ≤ yi := by omega
          have by2 : yi ≤ 1152921504606846976 := by omega
          have hMl : M + 1 ≤ 9 := by
            have l1 := arAll_len D n G b g i
            have l2 := arRow_len D n G b g i k
            have l3 := HM.out
            rw [HL.out, List.length_append] at l3
            have := HZ.out
            have := HK.out
            omega
          by_cases hin : 0 ≤ yi ∧ yi < (G : Int)
          · obtain ⟨hy0, hy1⟩ := hin
            obtain ⟨y, rfl⟩ := Int.eq_ofNat_of_zero_le hy0
            have hyG : y < G := by omega
            obtain ⟨mb, mo, hpe, hr⟩ := H.out.rd (by omega)
            subst hpe
            obtain ⟨q1, c1, k1, k2⟩ := hr x hxn
            have hzG := HGl.out x hxn
            have hsm := H.out.small x hxn
            obtain ⟨b2, o2, hpe, hr2⟩ := k2.rd (by omega)
            subst hpe
            have cy := cell_up (hr2 y (by omega)) HU.out
            have cr := cell_up k1 HU.out
            obtain ⟨zz, hzz⟩ : ∃ zz, (D x).size = zz := ⟨_, rfl⟩
            rw [hzz] at cr hzG hsm
            obtain ⟨v, hv⟩ : ∃ v, (D x)[y]! = v := ⟨_, rfl⟩
            rw [hv] at cy
            have HAC : Hid (arC D n G b g i k = [((x : Int), (y : Int), v)]) := by
              have e1 := HYI.out
              have e2 := HK.out
              have e3 : g + k - 1 = y := by omega
              show _ = _
              unfold arC
              rw [if_pos (by omega), HX.out, e3, hv]
            clear hr k1 k2 hr2 hzz hv
            have t1 : (x : Int) < (n : Int) := by omega
            have t2 : (y : Int) < (zz : Int) := by omega
            have sz : w.heap.size ≤ W2.heap.size := RowKit.Below.size HU.out
            have hown : W2.ownsRow w.heap.size 29 3 (.slice q M c) M (L.flatMap spC) := by have := HO.out; unfold SO at this; rw [HM.out] at this; exact this
            go_wp2_with (at_builtin; refine wpList_append_own _ rfl _ _ 25 rfl w.heap.size 29 i0 (.agg #[.int .i64 0, .int .i64 0, .float .f64 0]) 3 24 Try.underlying25 hi0 hz0 hz1 hz2 rfl (by decide) _ _ _ rfl (hown.alloc _) ⟨W2.heap.size, 0, none⟩ 1 1 [.int .i64 x, .int .i64 y, .float .f64 v] rfl rfl (three_new _ _ _ _ _) (three_one rfl rfl rfl) (by unfold maxLen; omega) (by omega) (by simp; omega) ?_)
            intro v' w6 hown' hgrow _
            have R3 := so_push (s := (x, y, v)) (Nat.le_refl _) HM.out hown HU.out hown' hgrow
            have U6 : Hid (Up w w6) := R3.2
            obtain ⟨p', c', hv', _⟩ := own_form hown'
            subst hv'
            have S6 : Hid (SO w.heap.size w6 (.slice p' (M + 1) c') (L ++ [((x : Int), (y : Int), v)])) := R3.1
            clear R3 hown' hgrow hown HO
            go_wp2
            go_roundw
            case rel =>
              refine ⟨k + 1, M + 1, c', u + 1, p', L ++ [((x : Int), (y : Int), v)], rfl, by go_num, by omega, by show u + 1 = _; rw [HK.out]; omega, hMl, by show _ = _; rw [List.length_append, HM.out]; rfl, ?_, S6, U6⟩
              show _ = _
              rw [HL.out, arRow, HAC.out, List.append_assoc]
            case measure => simp [intOf]; omega
          · have HAC : Hid (arC D n G b g i k = []) := by
              have e1 := HYI.out
              have e2 := HK.out
              show _ = _
              unfold arC
              rw [if_neg (by omega)]
            by_cases hneg : 0 ≤ yi
            · have hge : ¬ yi < (G : Int) := by omega
              go_wp2
              go_roundw
              case rel => exact ⟨k + 1, M, c, u + 1, q, L, rfl, by go_num, by omega, by show u + 1 = _; rw [HK.out]; omega, hM, HM, by show _ = _; rw [HL.out, arRow, HAC.out, List.append_nil], HO, HU⟩
              case measure => simp [intOf]; omega
            · go_wp2
              go_roundw
              case rel => exact ⟨k + 1, M, c, u + 1, q, L, rfl, by go_num, by omega, by show u + 1 = _; rw [HK.out]; omega, hM, HM, by show _ = _; rw [HL.out, arRow, HAC.out, List.append_nil], HO, HU⟩
              case measure => simp [intOf]; omega
        · go_wp2
          go_roundw
          case rel =>
            have hk3 : k = 3 := by have := HK.out; omega
            exact ⟨i + 1, M, c, z + 1, q, L, rfl, by go_num, by omega, by show z + 1 = _; rw [HZ.out]; omega, hM, HM, by show _ = _; rw [HL.out, arAll, hk3], HO, HU⟩
          case measure => simp [intOf]; omega
    · go_wp2
      go_ret
      have hi3 : i = 3 := by have := HZ.out; omega
      have e : arF D n G b g = L := by unfold arF; rw [HL.out, hi3]
      rw [e]
      exact ⟨q, c, by rw [HM.out]; rfl, by rw [HM.out]; exact HO, HU⟩
end Go.Proofs.Ytephkmahnbhmbaa

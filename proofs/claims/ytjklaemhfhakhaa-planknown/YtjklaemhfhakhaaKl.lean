/- late: the walk. -/
import Derived.Test.YtjklaemhfhakhaaKk
namespace Go.Proofs.Ytjklaemhfhakhaa
open Go.ChangeShapes Go.WideShapes Go.ChangeAt Go.RowKit

theorem l_22a {w0 W : World} {B : Nat} {l : List PE} (h : PL w0 W B l) {ba c : Nat} {q : Option Addr} (ha : SO ba W (.slice q 4 c) pD1) (hB : B ≤ ba) (hba : ba ≤ W.heap.size) :
    Calls Try.prog 22 #[.slice q 4 c, .slice (some ⟨W.heap.size, 0, none⟩) 4 4] (W.alloc (.cells #[.int .i64 1, .int .i64 0, .int .i64 1, .bool false, .int .i64 1, .int .i64 1, .int .i64 2, .bool false, .int .i64 1, .int .i64 2, .int .i64 3, .bool false, .int .i64 0, .int .i64 3, .int .i64 7, .bool true] 42)) (fun e w' => e = .returned (.bool true) ∧ Hid (PL w0 w' B l) ∧ Hid (Kp (fun k => some k ≠ (Value.slice q 4 c).ownBlock) W w')) :=
  h.c22 ha hB hba rfl (by omega)
theorem l_22b {w0 W : World} {B : Nat} {l : List PE} (h : PL w0 W B l) {ba c : Nat} {q : Option Addr} (ha : SO ba W (.slice q 5 c) pD2) (hB : B ≤ ba) (hba : ba ≤ W.heap.size) :
    Calls Try.prog 22 #[.slice q 5 c, .slice (some ⟨W.heap.size, 0, none⟩) 5 5] (W.alloc (.cells #[.int .i64 1, .int .i64 7, .int .i64 8, .bool true, .int .i64 1, .int .i64 8, .int .i64 9, .bool true, .int .i64 1, .int .i64 9, .int .i64 10, .bool true, .int .i64 1, .int .i64 10, .int .i64 11, .bool true, .int .i64 0, .int .i64 11, .int .i64 12, .bool true] 42)) (fun e w' => e = .returned (.bool true) ∧ Hid (PL w0 w' B l) ∧ Hid (Kp (fun k => some k ≠ (Value.slice q 5 c).ownBlock) W w')) :=
  h.c22 ha hB hba rfl (by omega)
theorem l_22q {w0 W : World} {B : Nat} {l : List PE} (h : PL w0 W B l) {ba c : Nat} {q : Option Addr} (ha : SO ba W (.slice q 3 c) qD) (hB : B ≤ ba) (hba : ba ≤ W.heap.size) :
    Calls Try.prog 22 #[.slice q 3 c, .slice (some ⟨W.heap.size, 0, none⟩) 3 3] (W.alloc (.cells #[.int .i64 0, .int .i64 2, .int .i64 3, .bool false, .int .i64 0, .int .i64 4, .int .i64 5, .bool false, .int .i64 0, .int .i64 9, .int .i64 10, .bool false] 42)) (fun e w' => e = .returned (.bool true) ∧ Hid (PL w0 w' B l) ∧ Hid (Kp (fun k => some k ≠ (Value.slice q 3 c).ownBlock) W w')) :=
  h.c22 ha hB hba rfl (by omega)
theorem l_lit (W : World) : SO W.heap.size (W.alloc (.cells #[.int .i64 0, .int .i64 25, .int .i64 26, .bool false, .int .i64 1, .int .i64 26, .int .i64 27, .bool false, .int .i64 1, .int .i64 28, .int .i64 29, .bool false] 42)) (.slice (some ⟨W.heap.size, 0, none⟩) 3 3) uD3 := so_lit W uD3 (by show 3 ≤ 1000000; omega)
theorem l_22u {w0 W0 W wr : World} {B : Nat} {l : List PE} (h : PL w0 W B l) {c c' : Nat} {q p : Option Addr} (hB : B = W0.heap.size) (ha : SO W0.heap.size W (.slice q 15 c) uD) (hw : WN W wr (.slice p 15 c') uD) :
    Calls Try.prog 22 #[.slice q 15 c, .slice p 15 c'] wr (fun e w' => e = .returned (.bool true) ∧ Hid (PL w0 w' B l)) := by
  subst hB
  have hlt := World.ownsRow.lt ha
  have hlt2 := World.ownsRow.lt hw.so
  have ha2 : SO W0.heap.size wr (.slice q 15 c) uD := ha.kp hw.kp (fun r hr => (hlt r hr).2)
  refine (t22 ha2 hw.so (fun r hr e => by
    have h1 := (hlt r e.symm).2
    have h2 := (hlt2 r hr).1
    omega) (by omega) (Nat.le_trans h.hi hw.size)).mono ?_
  rintro e w' ⟨rfl, hk⟩
  refine ⟨rfl, h.kp ((hw.kp.mono (fun k _ hb => Nat.lt_of_lt_of_le hb h.hi)).two hk.out (fun b hb _ e => ?_))⟩
  have := (hlt b e.symm).1
  omega
theorem l_new5a {w0 W : World} {B b1 b2 b3 b4 : Nat} {x y : Pl} (h : PL w0 W B (l4 b1 b2 b3 b4 x y (sP 17))) : Calls Try.prog 10 #[.slice (some ⟨W.heap.size + 1, 0, none⟩) 2 2] ((W.alloc (.cells #[.int .i64 0, .int .i64 0, .int .i64 0, .bool false] 42)).alloc (.cells #[.int .i64 6, .int .i64 6, .int .i64 0, .int .i64 2, .int .i64 1, .int .i64 0] 26)) (fun e w' => ∃ b5, e = .returned (.tuple #[.pointer (some ⟨b5, 0, none⟩), .int .i64 0]) ∧ Hid (PL w0 w' w'.heap.size (l5 b1 b2 b3 b4 b5 x y (newP uT)))) := by
  have := l_new5 (h.upw (Up.alloc W (.cells #[.int .i64 0, .int .i64 0, .int .i64 0, .bool false] 42)))
  rw [show (W.alloc (.cells #[.int .i64 0, .int .i64 0, .int .i64 0, .bool false] 42)).heap.size = W.heap.size + 1 by simp] at this
  exact this
set_option maxRecDepth 200000 in
set_option maxHeartbeats 16000000 in
theorem t24 (w : World) : Calls Try.prog 24 #[] w (VU w (.bool true)) := by
  go_enter Try.func24, Try.ntmps24
  go_upto_region 17 with (first
    | (go_at_call 10; (with_reducible refine (l_new1 w).mono ?_); rintro e w1 ⟨b1, rfl, HX1⟩)
    | (go_at_call 10; (with_reducible refine (l_new2 HX1.out).mono ?_); rintro e w2 ⟨b2, rfl, HX2⟩)
    | (go_at_call 10; (with_reducible refine (l_new3 HX2.out).mono ?_); rintro e w3 ⟨b3, rfl, HX3⟩)
    | (go_at_call 10; (with_reducible refine (l_new4 HX3.out).mono ?_); rintro e w4 ⟨b4, rfl, HX4⟩)
    | (go_at_call 18; (with_reducible refine (l_p7 HX4.out).mono ?_); rintro e w5 ⟨qa, ca, rfl, HSa, HX5⟩)
    | (go_at_call 18; (with_reducible refine (l_p12 HX5.out).mono ?_); rintro e w6 ⟨qb, cb, x, rfl, HSb, HX6, HK6⟩; (have HSa6 : Hid (SO w4.heap.size w6 (.slice qa 4 ca) pD1) := HSa.out.keep (Nat.le_refl _) HK6.out))
    | (go_at_call 22; (with_reducible refine (l_22a HX6.out HSa6.out (Nat.le_refl _) HX6.out.hi).mono ?_); rintro e w7 ⟨rfl, HX7, HK7⟩; (have HSb7 : Hid (SO w5.heap.size w7 (.slice qb 5 cb) pD2) := HSb.out.kp HK7.out (fun r hr e => by
        have h1 := (World.ownsRow.lt HSa.out r e.symm).2
        have h2 := (World.ownsRow.lt HSb.out r hr).1
        omega)); (have hsz7 := Nat.le_trans HK6.out.size HK7.out.size))
    | (go_at_call 22; (with_reducible refine (l_22b HX7.out HSb7.out HX5.out.hi hsz7).mono ?_); rintro e w8 ⟨rfl, HX8, HK8⟩)
    | (go_at_call 18; (with_reducible refine (l_q2 HX8.out).mono ?_); rintro e w9 ⟨v9, rfl, HX9⟩)
    | (go_at_call 19; (with_reducible refine (l_qs HX9.out).mono ?_); rintro e w10 ⟨rfl, HX10⟩)
    | (go_at_call 18; (with_reducible refine (l_q12 HX10.out).mono ?_); rintro e w11 ⟨qq, cq, y, rfl, HSq, HX11⟩)
    | (go_at_call 22; (with_reducible refine (l_22q HX11.out HSq.out (Nat.le_refl _) HX11.out.hi).mono ?_); rintro e w12 ⟨rfl, HX12, HK12⟩)
    | (go_at_call 13; (with_reducible refine (l_rl HX12.out).mono ?_); rintro e w13 ⟨rfl, HU13⟩; (have HX13 : Hid (PL w w13 w10.heap.size (l4 b1 b2 b3 b4 x y (sP 0))) := HX12.out.upw HU13.out)))
  clear HX1 HX2 HX3 HX4 HX5 HSa HSb HX6 HK6 HSa6 HX7 HK7 HSb7 hsz7 HX8 HK8 HX9 HX10 HSq HX11 HX12 HK12 HU13
  generalize w10.heap.size = B at *
  go_loopw [18] (fun v18 wr => ∃ i : Nat, i ≤ 17 ∧ v18 = .int .i64 i ∧ Hid (PL w wr B (l4 b1 b2 b3 b4 x y (sP i)))) (fun v18 _ => 17 - (intOf v18).toNat)
  case atStart => exact ⟨0, by omega, rfl, HX13⟩
  case round =>
    clear HX13
    obtain ⟨i, hi, rfl, HX⟩ := hrel
    rename World => wr
    by_cases hi17 : i < 17
    · have c0 : (i : Int) < 17 := by omega
      go_wp2_with (go_at_call 18; (with_reducible refine (l_s hi17 HX.out).mono ?_); rintro e w14 ⟨v14, rfl, HX14⟩)
      go_roundw
      case rel => exact ⟨i + 1, by omega, by go_num, HX14⟩
      case measure => simp [intOf]; omega
    · have c0 : ¬ (i : Int) < 17 := by omega
      obtain rfl : i = 17 := by omega
      go_upto_region 29 with (first
        | (go_at_call 17; (with_reducible refine (l_sn HX.out).mono ?_); rintro e w14 ⟨rfl, HU14⟩; (have HX14 : Hid (PL w w14 B (l4 b1 b2 b3 b4 x y (sP 17))) := HX.out.upw HU14.out))
        | (go_at_call 10; (with_reducible refine (l_new5a HX14.out).mono ?_); rintro e w15 ⟨b5, rfl, HX15⟩)
        | (go_at_call 18; (with_reducible refine (l_u8 HX15.out).mono ?_); rintro e w16 ⟨v16, rfl, HX16⟩)
        | (go_at_call 19; (with_reducible refine (l_us HX16.out).mono ?_); rintro e w17 ⟨rfl, HX17⟩)
        | (go_at_call 18; (with_reducible refine (l_u30 HX17.out).mono ?_); rintro e w18 ⟨ql, cl, z, rfl, HSl, HX18, HZ18⟩))
      clear HX HX14 HX15 HX16 HX17 HU14
      have HW0 : Hid (WN w18 w18 (.slice none 0 0) (uD1.take 0)) := WN.start w18
      go_loopw [24, 25] (fun v24 v25 wr => ∃ (k : Nat) (p : Option Addr) (c : Nat), k ≤ 3 ∧ v25 = .int .i64 (8 + k) ∧ v24 = .slice p k c ∧ Hid (WN w18 wr (.slice p k c) (uD1.take k))) (fun _ v25 _ => 11 - (intOf v25).toNat)
      case atStart => exact ⟨0, none, 0, by omega, by go_num, rfl, HW0⟩
      case round =>
        clear HW0
        obtain ⟨k, p, c, hk, rfl, rfl, HW⟩ := hrel
        rename World => wa
        by_cases hk3 : k < 3
        · have c1 : (8 : Int) + (k : Int) < 11 := by omega
          have c2 : IntKind.i64.wrap (8 + (k : Int) + 1) = 8 + (k : Int) + 1 := by rw [IntKind.wrap_i64]; omega
          have hsz := HW.out.size
          go_wp2_with (at_builtin; (with_reducible refine wpList_push (z := ⟨1, 8 + k, 8 + k + 1, true⟩) rfl _ _ rfl p k c (uD1.take k) rfl rfl HW.out.so hsz (by omega) ?_); intro p' c' w5 HS5 HG5 HB5)
          go_roundw
          case rel => exact ⟨k + 1, p', c', by omega, by go_num, rfl, HW.out.next _ (by rw [← want1 hk3]; exact HS5.out) HG5.out⟩
          case measure => simp [intOf]; omega
        · have c1 : ¬ (8 : Int) + (k : Int) < 11 := by omega
          obtain rfl : k = 3 := by omega
          have hsz := HW.out.size
          go_upto_region 34 with (at_builtin; (with_reducible refine wpList_push (z := ⟨0, 11, 17, true⟩) rfl _ _ rfl p 3 c (uD1.take 3) rfl rfl HW.out.so hsz (by omega) ?_); intro p' c' w5 HS5 HG5 HB5)
          have HV0 : Hid (WN w18 w5 (.slice p' 4 c') (uD1 ++ [⟨0, 11, 17, true⟩] ++ uD2.take 0)) := HW.out.next _ HS5.out HG5.out
          clear HW HS5 HG5 HB5
          go_loopw [24, 26] (fun v24 v26 wr => ∃ (k : Nat) (p : Option Addr) (c : Nat), k ≤ 8 ∧ v26 = .int .i64 (17 + k) ∧ v24 = .slice p (4 + k) c ∧ Hid (WN w18 wr (.slice p (4 + k) c) (uD1 ++ [⟨0, 11, 17, true⟩] ++ uD2.take k))) (fun _ v26 _ => 25 - (intOf v26).toNat)
          case atStart => exact ⟨0, p', c', by omega, by go_num, rfl, HV0⟩
          case round =>
            clear HV0
            obtain ⟨k, p, c, hk, rfl, rfl, HW⟩ := hrel
            rename World => wb
            by_cases hk8 : k < 8
            · have c3 : (17 : Int) + (k : Int) < 25 := by omega
              have c4 : IntKind.i64.wrap (17 + (k : Int) + 1) = 17 + (k : Int) + 1 := by rw [IntKind.wrap_i64]; omega
              obtain ⟨bb, hbb⟩ : ∃ bb, decide ((17 : Int) + (k : Int) < 23) = bb := ⟨_, rfl⟩
              have HBB : Hid (decide ((17 : Int) + (k : Int) < 23) = bb) := hbb
              have hsz := HW.out.size
              go_wp2_with (at_builtin; (with_reducible refine wpList_push (z := ⟨1, 17 + k, 17 + k + 1, bb⟩) rfl _ _ rfl p (4 + k) c (uD1 ++ [⟨0, 11, 17, true⟩] ++ uD2.take k) rfl rfl HW.out.so hsz (by omega) ?_); intro p' c' w5 HS5 HG5 HB5)
              go_roundw
              case rel => exact ⟨k + 1, p', c', by omega, by go_num, rfl, HW.out.next _ (by rw [← want2 hk8, HBB.out, ← List.append_assoc]; exact HS5.out) HG5.out⟩
              case measure => simp [intOf]; omega
            · have c3 : ¬ (17 : Int) + (k : Int) < 25 := by omega
              obtain rfl : k = 8 := by omega
              have HW12 : Hid (WN w18 wb (.slice p 12 c) (uD1 ++ [⟨0, 11, 17, true⟩] ++ uD2.take 8)) := HW
              clear HW
              have hsz12 : ∀ o, w18.heap.size ≤ (wb.alloc o).heap.size := fun o => Nat.le_trans HW12.out.size (Up.alloc wb o).size
              simp only [Nat.reduceAdd]
              go_wp2_with (first
                | (at_builtin; (with_reducible refine wpList_app_so rfl _ _ rfl w18.heap.size wb.heap.size 12 c p (some ⟨wb.heap.size, 0, none⟩) 3 3 (uD1 ++ [⟨0, 11, 17, true⟩] ++ uD2.take 8) uD3 rfl rfl (HW12.out.so.up (Up.alloc _ _)) (l_lit wb) (by omega) (hsz12 _) ?_); intro p' c' w5 HS5 HG5; (have HW5 : Hid (WN w18 w5 (.slice p' 15 c') uD) := HW12.out.next _ HS5 HG5); clear HS5 HG5)
                | (go_at_call 22; (with_reducible refine (l_22u HX18.out rfl HSl.out HW5.out).mono ?_); rintro e w19 ⟨rfl, HX19⟩)
                | (go_at_call 15; (with_reducible refine (l_sw HX19.out).mono ?_); rintro e w20 ⟨rfl, hw20⟩; subst hw20))
              go_ret
              exact ⟨rfl, HX19.out.up⟩
end Go.Proofs.Ytjklaemhfhakhaa

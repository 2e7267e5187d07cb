/- Elements: what is wrong with them; across; Form. -/
import Derived.Test.YtjnggbpifclpcabUa
namespace Go.Proofs.Ytjnggbpifclpcab
open Go.ChangeShapes Go.WideShapes Go.ChangeAt Go.RowKit Go.Fl Ieee
attribute [local go_sem] run_store_float run_store_complex call20 call19 run_neg fold_eq fold_ne fold_lt fold_gt abs_eq

set_option maxHeartbeats 1000000 in
theorem t35 {w : World} {p : Option Addr} {n c m : Nat} {f : Nat → Nat → Nat × Nat} (h : TR w p n (fun _ => m) f) (hb : n * m ≤ 262144) (hn : n ≤ 1000000) : Calls Try.prog 35 #[.slice p n c] w (BR false w) := by
  have HS : Hid (TR w p n (fun _ => m) f) := h
  have HB : Hid (n * m ≤ 262144) := hb
  clear h hb
  have z0 : (n : Int) ≤ 1000000 := by omega
  go_enter Try.func35, Try.ntmps35
  go_wp2
  go_loopw [3, 5, 8] (fun vl _ vi wr => ∃ i y : Nat, i ≤ n ∧ y ≤ 262144 ∧ vi = .int .i64 i ∧ vl = .int .i64 y ∧ w = wr ∧ Hid (y + i * m = 262144)) (fun _ _ vi _ => n - (intOf vi).toNat)
  case atStart => exact ⟨0, 262144, by omega, by omega, rfl, rfl, rfl, by show _ = _; omega⟩
  case round =>
    obtain ⟨i, y, hi, hy, rfl, rfl, hw, HY⟩ := hrel
    subst hw
    by_cases hlt : i < n
    · obtain ⟨b, o, rfl, hr⟩ := HS.out (by omega)
      obtain ⟨q, k, c0, -, -⟩ := hr i hlt
      have z1 : (i : Int) < (n : Int) := by omega
      have hm : m ≤ y := by
        have h1 : (i + 1) * m ≤ n * m := Nat.mul_le_mul_right _ hlt
        rw [Nat.add_mul] at h1
        have h2 := HY.out
        have h3 := HB.out
        omega
      have z2 : (m : Int) ≤ (y : Int) := by omega
      have z3 : (y : Int) ≤ 262144 := by omega
      clear hr
      go_wp2
      go_roundw
      case rel =>
        refine ⟨i + 1, y - m, by omega, by omega, by go_num, by go_num, by trivial, ?_⟩
        show _ = _
        have h2 := HY.out
        rw [Nat.add_mul]
        omega
      case measure => simp [intOf]; omega
    · obtain rfl : i = n := by omega
      go_wp2
      go_ret
      exact ⟨rfl, rfl⟩
set_option maxHeartbeats 1000000 in
set_option maxRecDepth 20000 in
theorem t36 {w : World} {p : Option Addr} {n c m : Nat} {f : Nat → Nat → Nat × Nat} (h : TR w p n (fun _ => m) f) (hn : n ≤ 1000000) : Calls Try.prog 36 #[.slice p n c] w (BR true w) := by
  have HS : Hid (TR w p n (fun _ => m) f) := h
  clear h
  have z0 : (n : Int) ≤ 1000000 := by omega
  go_enter Try.func36, Try.ntmps36
  go_wp2
  go_loopw [4, 7] (fun _ vi wr => ∃ i : Nat, i ≤ n ∧ vi = .int .i64 i ∧ w = wr) (fun _ vi _ => n - (intOf vi).toNat)
  case atStart => exact ⟨0, by omega, rfl, rfl⟩
  case round =>
    obtain ⟨i, hi, rfl, hw⟩ := hrel
    subst hw
    by_cases hlt : i < n
    · obtain ⟨b, o, rfl, hr⟩ := HS.out (by omega)
      obtain ⟨q, k, c0, -, -⟩ := hr i hlt
      obtain ⟨q', k', c1, -, -⟩ := hr 0 (by omega)
      rw [Nat.add_zero] at c1
      have z1 : (i : Int) < (n : Int) := by omega
      have z2 : (0 : Int) < (n : Int) := by omega
      have z3 : 0 < n := by omega
      clear hr
      go_wp2
      go_roundw
      case rel => exact ⟨i + 1, by omega, by go_num, by trivial⟩
      case measure => simp [intOf]; omega
    · obtain rfl : i = n := by omega
      go_wp2
      go_ret
      exact ⟨rfl, rfl⟩
theorem t15 {w : World} {p : Option Addr} {n c m : Nat} {f : Nat → Nat → Nat × Nat} (h : TR w p n (fun _ => m) f) (h1 : 1 ≤ n) (h2 : n ≤ 64) (hb : n * m ≤ 262144) : Calls Try.prog 15 #[.slice p n c] w (IR 0 w) := by
  have A : Hid (Calls Try.prog 35 #[.slice p n c] w (BR false w)) := t35 h hb (by omega)
  have B : Hid (Calls Try.prog 36 #[.slice p n c] w (BR true w)) := t36 h (by omega)
  clear h hb
  have z1 : ((n : Int) == 0) = false := by rw [beq_eq_false_iff_ne]; omega
  have z2 : (n : Int) ≤ 64 := by omega
  go_enter Try.func15, Try.ntmps15
  go_wp2_with (first
    | (go_at_call 35; (with_reducible refine A.out.mono ?_); rintro e w1 ⟨rfl, hw⟩; subst w1)
    | (go_at_call 36; (with_reducible refine B.out.mono ?_); rintro e w1 ⟨rfl, hw⟩; subst w1))
  go_ret
  exact ⟨rfl, rfl⟩
/-- What a closure of across leaves: R goes on, and of older blocks F alone has changed. -/
def AcR (R : Nat → World → Prop) (F i : Nat) (w : World) (e : Ending) (w' : World) : Prop := e = .returned (.tuple #[]) ∧ Hid (R (i + 1) w') ∧ Hid (But F w w')
theorem XR.made' {w w' : World} {n : Nat} (h : CRow w.heap.size w' (.slice (some ⟨w.heap.size, 0, none⟩) n n) (List.replicate n (0, 0)) ∧ Up w w') : XR w.heap.size w' w.heap.size n (fun _ => (ab 0, ab 0)) := XR.made ⟨rfl, h.1, h.2⟩
set_option maxHeartbeats 4000000 in
set_option maxRecDepth 20000 in
theorem t16 {w0 w : World} {p : Option Addr} {n c m : Nat} {f : Nat → Nat → Nat × Nat} (C : Nat) (bs : Array Value) (R : Nat → World → Prop) (F : Nat)
    (eg : ∀ args w, (callFunc C args).run Try.prog w = .ok (.enter C args) w)
    (hT : TR w0 p n (fun _ => m) f) (hu : Up w0 w) (hF0 : w0.heap.size ≤ F) (hF : F < w.heap.size) (h1 : 1 ≤ n) (h2 : n ≤ 64) (hm : m ≤ 262144)
    (hR0 : R 0 w) (hRA : ∀ i A wr w', w.heap.size ≤ A → R i wr → But A wr w' → R i w')
    (hcl : ∀ i, i < m → ∀ A wr, w.heap.size ≤ A → R i wr → XR w.heap.size wr A n (fun k => ab2 (f k i)) → Calls Try.prog C (#[.int .i64 i, .slice (some ⟨A, 0, none⟩) n n] ++ bs) wr (AcR R F i wr)) :
    Calls Try.prog 16 #[.slice p n c, .func (.func C) #[] bs] w fun e w' => e = .returned (.tuple #[]) ∧ Hid (R m w') ∧ Hid (Up w0 w') := by
  obtain ⟨i0, hi, hz0, hz1, hz2⟩ := info_parts info41
  have HT : Hid (TR w0 p n (fun _ => m) f) := hT
  have HU : Hid (Up w0 w ∧ w0.heap.size ≤ F ∧ F < w.heap.size) := ⟨hu, hF0, hF⟩
  have HR0 : Hid (R 0 w) := hR0
  have HRA : Hid (∀ i A wr w', w.heap.size ≤ A → R i wr → But A wr w' → R i w') := hRA
  have HC : Hid (∀ i, i < m → ∀ A wr, w.heap.size ≤ A → R i wr → XR w.heap.size wr A n (fun k => ab2 (f k i)) → Calls Try.prog C (#[.int .i64 i, .slice (some ⟨A, 0, none⟩) n n] ++ bs) wr (AcR R F i wr)) := hcl
  obtain ⟨b, o, rfl, hr⟩ := hT (by omega)
  obtain ⟨q0, k0, c0, -, -⟩ := hr 0 (by omega)
  rw [Nat.add_zero] at c0
  have HC0 : Hid (w0.cell? ⟨b, o, none⟩ = some (.slice q0 m k0)) := c0
  clear hT hu hF0 hF hR0 hRA hcl hr c0
  have z0 : (n : Int) ≤ 64 := by omega
  have z1 : (0 : Int) < (n : Int) := by omega
  have z2 : (m : Int) ≤ 262144 := by omega
  have z3 : 0 < n := by omega
  go_enter Try.func16, Try.ntmps16
  go_wp2_with (refine wpList_make_full _ rfl _ _ 25 rfl w.heap.size 26 i0 (.complex .f64 0 0) 1 Try.underlying25 hi hz0 hz1 .i64 .i64 _ _ n rfl rfl rfl rfl (by rw [hz2]; omega) (by unfold maxLen; omega) (Nat.le_refl _) ?_; intro w1 hown hgr; obtain ⟨A, hA⟩ : ∃ g, w.heap.size = g := ⟨_, rfl⟩; (have HM : Hid (XR w.heap.size w1 A n (fun _ => (ab 0, ab 0)) ∧ Up w w1) := ⟨XR.made ⟨hA, CRow.made hA hown hgr⟩, (CRow.made hA hown hgr).2⟩); clear hown hgr; rw [hA]; (have HA : Hid (w.heap.size = A) := hA); clear hA; (have c1 : w1.cell? ⟨b, o, none⟩ = some (.slice q0 m k0) := cell_up HC0.out (HU.out.1.trans HM.out.2)))
  go_loopw [5, 6, 7, 15] (fun _ _ _ vi wr => ∃ (i : Nat) (z : Nat → CN), i ≤ m ∧ vi = .int .i64 i ∧ Hid (R i wr) ∧ Hid (XR w.heap.size wr A n z) ∧ Hid (Up w0 wr)) (fun _ _ _ vi _ => m - (intOf vi).toNat)
  case atStart => exact ⟨0, _, by omega, rfl, HRA.out 0 A w w1 (by rw [HA.out]; exact Nat.le_refl _) HR0.out (But.of_up HM.out.2), HM.out.1, HU.out.1.trans HM.out.2⟩
  case round =>
    clear c1 HM
    obtain ⟨i, z, hi', rfl, HR, HX, HW⟩ := hrel
    rename World => wr
    by_cases hlt : i < m
    · have y1 : (i : Int) < (m : Int) := by omega
      have y2 : (0 : Int) ≤ (i : Int) := by omega
      go_wp2
      go_loopw [6, 7, 20] (fun _ _ vj wx => ∃ (j : Nat) (z : Nat → CN), j ≤ n ∧ vj = .int .i64 j ∧ Hid (R i wx) ∧ Hid (XR w.heap.size wx A n z) ∧ Hid (Up w0 wx) ∧ Hid (∀ l, l < j → z l = ab2 (f l i))) (fun _ _ vj _ => n - (intOf vj).toNat)
      case atStart => exact ⟨0, z, by omega, rfl, HR, HX, HW, fun l hl => by omega⟩
      case round =>
        clear HR HX HW
        obtain ⟨j, z, hj, rfl, HR, HX, HW, HZ⟩ := hrel
        rename World => wx
        by_cases hlt2 : j < n
        · obtain ⟨b', o', e', hr⟩ := (HT.out.up HW.out) (by omega)
          simp only [Option.some.injEq, Addr.mk.injEq, and_true] at e'
          obtain ⟨rfl, rfl⟩ := e'
          obtain ⟨q, cq, c1, -, hrv⟩ := hr j hlt2
          obtain ⟨g, og, rfl, hrd⟩ := hrv (show 0 < m by omega)
          obtain ⟨x1, y1', hx1⟩ : ∃ x y, f j i = (x, y) := ⟨_, _, rfl⟩
          have c3 : wx.cell? ⟨g, og + i, none⟩ = some (.complex .f64 x1 y1') := by have := hrd i hlt; rw [hx1] at this; exact this
          have HF1 : Hid (f j i = (x1, y1')) := hx1
          obtain ⟨x9, y9, c9, -, f9⟩ := HX.out.cell hlt2
          have c8 : (wx.cell? ⟨A, j, none⟩).isSome = true := by rw [c9]; rfl
          have y3 : (j : Int) < (n : Int) := by omega
          have y4 : (0 : Int) ≤ (j : Int) := by omega
          obtain ⟨HP, HB⟩ := HX.out.put hlt2 x1 y1'
          have HPB : Hid (XR w.heap.size (wx.setCell ⟨A, j, none⟩ (.complex .f64 x1 y1')) A n (fun a => if a = j then (ab x1, ab y1') else z a) ∧ But A wx (wx.setCell ⟨A, j, none⟩ (.complex .f64 x1 y1'))) := ⟨HP, HB⟩
          clear hr hrv hrd hx1 HP HB
          go_wp2
          go_roundw
          case rel =>
            refine ⟨j + 1, _, by omega, by go_num, HRA.out i A _ _ (by rw [HA.out]; exact Nat.le_refl _) HR.out HPB.out.2, HPB.out.1, HPB.out.2.up HW.out (by have := HU.out; rw [← HA.out]; omega), fun l hl => ?_⟩
            by_cases e : l = j
            · subst e
              rw [if_pos rfl, HF1.out]; rfl
            · rw [if_neg e]; exact HZ.out l (by omega)
          case measure => simp [intOf]; omega
        · obtain rfl : j = n := by omega
          have HC1 : Hid (Calls Try.prog C (#[.int .i64 i, .slice (some ⟨A, 0, none⟩) j j] ++ bs) wx (AcR R F i wx)) := HC.out i hlt A wx (by rw [HA.out]; exact Nat.le_refl _) HR.out (HX.out.ext fun l hl => HZ.out l hl)
          go_wp2_with fail
          (with_reducible refine HC1.out.mono ?_)
          rintro e w5 ⟨rfl, HR5, HB5⟩
          have HX5 : Hid (XR w.heap.size w5 A j z) := HX.out.far HB5.out (by have := HU.out; have := HA.out; omega)
          have HW5 : Hid (Up w0 w5) := HB5.out.up HW.out HU.out.2.1
          go_wp2
          go_roundw
          case rel => exact ⟨i + 1, z, by omega, by go_num, HR5, HX5, HW5⟩
          case measure => simp [intOf]; omega
    · obtain rfl : i = m := by omega
      go_wp2
      go_end0
      exact ⟨rfl, HR, HW⟩
end Go.Proofs.Ytjnggbpifclpcab

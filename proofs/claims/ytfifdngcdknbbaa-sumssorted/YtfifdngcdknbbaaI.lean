/- The greatest of a row, the product of two rows, the sum by halves. -/
import Derived.Test.YtfifdngcdknbbaaH
namespace Go.Proofs.Ytfifdngcdknbbaa
open Go.ChangeShapes Go.WideShapes Go.ChangeAt Go.RowKit Go.Fl Go.Sort
attribute [local go_sem] run_store_float run_store_complex call12 call32 run_neg fold_eq fold_ne fold_lt fold_gt abs_eq

/-- The place of the greatest so far, and it. -/
def pk (F : Nat → Option Nat) : Nat → Int × Option Nat
  | 0 => (-1, none)
  | k + 1 => if (pk F k).1 < 0 || aboveF (F k) (pk F k).2 then (k, F k) else pk F k
theorem t44k {x y : Nat} {b : Bool} (h : aboveF (ab x) (ab y) = b) (w : World) : Calls Try.prog 44 #[.float .f64 x, .float .f64 y] w fun e w' => e = .returned (.bool b) ∧ w' = w := by
  rw [← h]; exact t44 x y w
set_option maxHeartbeats 1000000 in
theorem t23 (blk off cap : Nat) (d : Array (Nat × Nat)) (w : World) (hR : Reads2 w blk off d) (hn : d.size < 4611686018427387904) :
    Calls Try.prog 23 #[.slice (some ⟨blk, off, none⟩) d.size cap] w fun e w' => e = .returned (.int .i64 (pk (pwF d) d.size).1) ∧ ∃ k, w' = w.drewN k := by
  have HR : Hid (Reads2 w blk off d) := hR
  clear hR
  have hnan : ab 9221120237041090561 = none := by decide +kernel
  have HN : Hid _ := hnan
  clear hnan
  go_enter Try.func23, Try.ntmps23
  go_wp2_with (go_at_call 22; (with_reducible refine (t22 _).mono ?_); rintro e w' ⟨rfl, rfl⟩)
  go_loopw [3, 4, 5, 6, 7, 11] (fun vb vm _ _ _ vi wr => ∃ (i m k : Nat) (b : Int), i ≤ d.size ∧ vb = .int .i64 b ∧ vm = .float .f64 m ∧ vi = .int .i64 i ∧ wr = w'.drewN k ∧ Hid (b = (pk (pwF d) i).1) ∧ Hid (ab m = (pk (pwF d) i).2)) (fun _ _ _ _ _ vi _ => d.size - (intOf vi).toNat)
  case atStart => exact ⟨0, _, 0, -1, by omega, rfl, rfl, rfl, rfl, rfl, HN.out⟩
  case round =>
    obtain ⟨i, m, k, b, hi, rfl, rfl, rfl, rfl, hb, hm⟩ := hrel
    by_cases hlt : i < d.size
    · obtain ⟨x, y, hx, hc⟩ : ∃ x y, d[i]! = (x, y) ∧ w'.cell? ⟨blk, off + i, none⟩ = some (.complex .f64 x y) := ⟨_, _, rfl, HR.out i hlt⟩
      have hc2 : (w'.drewN k).cell? ⟨blk, off + i, none⟩ = some (.complex .f64 x y) := hc
      have HX : Hid (pwF d i = abs2F (ab x) (ab y)) := by show _ = _; unfold pwF reF imF; rw [hx]
      clear hx hc
      have hiz : (i : Int) < (d.size : Int) := by omega
      rcases Int.lt_or_le b 0 with hb0 | hb0
      · go_wp2_with (go_at_call 43; (with_reducible refine (t43 _ _ _).mono ?_); rintro e w2 ⟨r, k2, rfl, rfl, hr⟩)
        go_roundw
        case rel =>
          refine ⟨i + 1, r, _, i, by omega, rfl, rfl, by go_num, by first | rfl | (simp only [World.drewN_drewN]; rfl), ?_, ?_⟩
          · show _ = _
            rw [pk, if_pos (by simp [← hb.out, hb0])]
          · show _ = _
            rw [pk, if_pos (by simp [← hb.out, hb0]), hr.out, HX.out]
        case measure => simp [intOf]; omega
      · have hb1 : ¬ b < 0 := by omega
        cases hab : aboveF (abs2F (ab x) (ab y)) (ab m)
        · have HAb : Hid _ := hab
          clear hab
          go_wp2_with (first
            | (go_at_call 43; (with_reducible refine (t43 _ _ _).mono ?_); rintro e w2 ⟨r, k2, rfl, rfl, hr⟩)
            | (go_at_call 44; (with_reducible refine (t44k (hr.out ▸ HAb.out) _).mono ?_); rintro e w3 ⟨rfl, rfl⟩))
          go_roundw
          case rel =>
            refine ⟨i + 1, m, _, b, by omega, rfl, rfl, by go_num, by first | rfl | (simp only [World.drewN_drewN]; rfl), ?_, ?_⟩
            · show _ = _
              rw [pk, if_neg (by simp [← hb.out, ← hm.out, HX.out, HAb.out, hb0]), hb.out]
            · show _ = _
              rw [pk, if_neg (by simp [← hb.out, ← hm.out, HX.out, HAb.out, hb0]), hm.out]
          case measure => simp [intOf]; omega
        · have HAb : Hid _ := hab
          clear hab
          go_wp2_with (first
            | (go_at_call 43; (with_reducible refine (t43 _ _ _).mono ?_); rintro e w2 ⟨r, k2, rfl, rfl, hr⟩)
            | (go_at_call 44; (with_reducible refine (t44k (hr.out ▸ HAb.out) _).mono ?_); rintro e w3 ⟨rfl, rfl⟩))
          go_roundw
          case rel =>
            refine ⟨i + 1, r, _, i, by omega, rfl, rfl, by go_num, by first | rfl | (simp only [World.drewN_drewN]; rfl), ?_, ?_⟩
            · show _ = _
              rw [pk, if_pos (by simp [← hm.out, HX.out, HAb.out])]
            · show _ = _
              rw [pk, if_pos (by simp [← hm.out, HX.out, HAb.out]), hr.out, HX.out]
          case measure => simp [intOf]; omega
    · obtain rfl : i = d.size := by omega
      go_wp2
      go_ret
      exact ⟨by rw [hb.out]; rfl, k, rfl⟩
theorem t23e (p : Option Addr) (cap : Nat) (w : World) : Calls Try.prog 23 #[.slice p 0 cap] w fun e w' => e = .returned (.int .i64 (-1)) ∧ w' = w := by
  go_enter Try.func23, Try.ntmps23
  go_wp2_with (go_at_call 22; (with_reducible refine (t22 _).mono ?_); rintro e w' ⟨rfl, rfl⟩)
  go_loopw [3, 4, 5, 6, 7, 11] (fun vb _ _ _ _ vi wr => vb = .int .i64 (-1) ∧ vi = .int .i64 0 ∧ wr = w') (fun _ _ _ _ _ _ _ => 0)
  case atStart => exact ⟨rfl, rfl, rfl⟩
  case round =>
    obtain ⟨rfl, rfl, rfl⟩ := hrel
    go_wp2
    go_ret
    exact ⟨rfl, rfl⟩

def dotR (c d : Array (Nat × Nat)) (i : Nat) : Option Nat := mulR (reF c i) (imF c i) (reF d i) ((imF d i).map neg)
def dotI (c d : Array (Nat × Nat)) (i : Nat) : Option Nat := mulI (reF c i) (imF c i) (reF d i) ((imF d i).map neg)
set_option maxHeartbeats 2000000 in
theorem t40 (b1 b2 g1 o1 c1 g2 o2 c2 i : Nat) (c d : Array (Nat × Nat)) (w : World) (hB1 : Box w b1 g1 o1 c1 c) (hB2 : Box w b2 g2 o2 c2 d) (h1 : i < c.size) (h2 : i < d.size) :
    Calls Try.prog 40 #[.int .i64 i, .pointer (some ⟨b1, 0, none⟩), .pointer (some ⟨b2, 0, none⟩)] w (CR w (dotR c d i) (dotI c d i)) := by
  obtain ⟨x, y, hx, hcx⟩ := hB1.open h1
  obtain ⟨u, v, hu, hcu⟩ := hB2.open h2
  have hb1 := hB1.1
  have hb2 := hB2.1
  unfold dotR dotI reF imF
  rw [hx, hu]
  simp only [← ab_neg]
  clear hx hu hB1 hB2
  have hi1 : (i : Int) < (c.size : Int) := by omega
  have hi2 : (i : Int) < (d.size : Int) := by omega
  go_enter Try.func40, Try.ntmps40
  go_wp2_with fail
  go_region_with (first
    | (go_at_call 42; (with_reducible refine (t42 _ _ _).mono ?_); rintro e w' ⟨rfl, rfl⟩)
    | (go_at_call 41; (with_reducible refine (t41 _ _ _ _ _).mono ?_); rintro e w' ⟨r, s, k, rfl, rfl, hr, hs⟩))
  all_goals go_wp2
  all_goals (go_ret; exact CR.mkN hr.out hs.out)
end Go.Proofs.Ytfifdngcdknbbaa

/- Line and Turns, the program's: what they lean on. -/
import Derived.Test.YtcgbmcnefolgcaaBa
namespace Go.Proofs.Ytcgbmcnefolgcaa
open Go.ChangeShapes Go.WideShapes Go.ChangeAt Go.RowKit Go.Fl Go.Sort
attribute [local go_sem] run_store_float call22 call54 run_neg fold_eq fold_ne fold_lt fold_gt abs_eq

/-- Does it hold of all numbers below n? -/
def allN (F : Nat → Bool) : Nat → Bool
  | 0 => true
  | n + 1 => allN F n && F n
theorem allN_false {F : Nat → Bool} {i : Nat} (h : F i = false) : ∀ n, i < n → allN F n = false
  | 0, hi => by omega
  | n + 1, hi => by
    unfold allN
    rcases Nat.lt_or_ge i n with k | k
    · rw [allN_false h n k]; rfl
    · obtain rfl : i = n := by omega
      rw [h, Bool.and_false]
theorem allN_iff {F : Nat → Bool} : ∀ n, allN F n = true ↔ ∀ i, i < n → F i = true
  | 0 => ⟨fun _ i hi => by omega, fun _ => rfl⟩
  | n + 1 => by
    unfold allN
    rw [Bool.and_eq_true, allN_iff n]
    refine ⟨fun ⟨a, b⟩ i hi => ?_, fun h => ⟨fun i hi => h i (by omega), h n (by omega)⟩⟩
    rcases Nat.lt_or_ge i n with k | k
    · exact a i k
    · rw [show i = n by omega]; exact b
theorem allN_congr {F G : Nat → Bool} : ∀ n, (∀ i, i < n → F i = G i) → allN F n = allN G n
  | 0, _ => rfl
  | n + 1, h => by rw [allN, allN, allN_congr n fun i hi => h i (by omega), h n (by omega)]
theorem t43 (x : Nat) (w : World) : Calls Try.prog 43 #[.float .f64 x] w fun e w' => e = .returned (.bool (fin (ab x))) ∧ w' = w := by
  go_enter Try.func43, Try.ntmps43
  go_wp2_with (first | (go_at_call 46; refine (t46 _ _).mono ?_; rintro e w' ⟨rfl, rfl⟩) | (go_at_call 64; refine (t64 _ _).mono ?_; rintro e w' ⟨rfl, rfl⟩))
  all_goals (go_ret; go_tidy; simp_all [fin])
/-- Which error two lengths make. -/
def lenE (n m : Nat) : Int := if n = m then (if 1024 < n then 3 else 0) else 5
theorem t36 (p q : Option Addr) (n cn m cm : Nat) (w : World) : Calls Try.prog 36 #[.slice p n cn, .slice q m cm] w fun e w' => e = .returned (.int .i64 (lenE n m)) ∧ w' = w := by
  by_cases h : n = m
  · subst h
    by_cases k : 1024 < n
    · have k1 : (1024 : Int) < (n : Int) := by omega
      go_enter Try.func36, Try.ntmps36
      go_wp2
      go_ret
      exact ⟨by simp [lenE, k], rfl⟩
    · have k1 : ¬ (1024 : Int) < (n : Int) := by omega
      go_enter Try.func36, Try.ntmps36
      go_wp2
      go_ret
      exact ⟨by simp [lenE, k], rfl⟩
  · have h1 : ¬ (n : Int) = (m : Int) := by omega
    go_enter Try.func36, Try.ntmps36
    go_wp2
    go_ret
    exact ⟨by simp [lenE, h], rfl⟩
/-- Are all finite? -/
def finL (d : Array Nat) : Bool := allN (fun i => fin (ab d[i]!)) d.size
set_option maxHeartbeats 1000000 in
theorem t37 {w : World} {p : Option Addr} {n cap : Nat} {d : Array Nat} (h : SV w p n cap d) (hn : n ≤ 1000000) : Calls Try.prog 37 #[.slice p n cap] w fun e w' => e = .returned (.bool (finL d)) ∧ w' = w := by
  have HS : Hid (SV w p n cap d) := h
  have hl := h.len
  clear h
  have z0 : (n : Int) ≤ 1000000 := by omega
  go_enter Try.func37, Try.ntmps37
  go_wp2
  go_loopw [4, 7] (fun _ vi wr => ∃ i : Nat, i ≤ n ∧ vi = .int .i64 i ∧ w = wr ∧ Hid (allN (fun i => fin (ab d[i]!)) i = true)) (fun _ vi _ => n - (intOf vi).toNat)
  case atStart => exact ⟨0, by omega, rfl, rfl, rfl⟩
  case round =>
    obtain ⟨i, hi, rfl, hw, HA⟩ := hrel
    subst hw
    by_cases hlt : i < n
    · obtain ⟨b, o, rfl, hr⟩ := HS.out.rd (by omega)
      have c0 := hr i (by omega)
      obtain ⟨x, hx⟩ : ∃ x, d[i]! = x := ⟨_, rfl⟩
      rw [hx] at c0
      have HX : Hid (d[i]! = x) := hx
      have z1 : (i : Int) < (n : Int) := by omega
      clear hr hx
      cases hb : fin (ab x)
      · go_wp2_with (go_at_call 43; (with_reducible refine (t43 x _).mono ?_); rintro e w' ⟨rfl, rfl⟩; rw [hb])
        go_ret
        refine ⟨?_, rfl⟩
        unfold finL
        simp only [allN_false (F := fun i => fin (ab d[i]!)) (i := i) (by show fin (ab d[i]!) = false; rw [HX.out, hb]) d.size (by omega)]
        rfl
      · go_wp2_with (go_at_call 43; (with_reducible refine (t43 x _).mono ?_); rintro e w' ⟨rfl, rfl⟩; rw [hb])
        go_roundw
        case rel => exact ⟨i + 1, by omega, by go_num, by trivial, by show (_ && fin (ab d[i]!)) = true; rw [HA.out, HX.out, hb]; rfl⟩
        case measure => simp [intOf]; omega
    · obtain rfl : i = n := by omega
      go_wp2
      go_ret
      exact ⟨by unfold finL; rw [hl, HA.out]; rfl, rfl⟩
set_option maxHeartbeats 1000000 in
theorem t44 {w : World} {p : Option Addr} {n cap : Nat} {d : Array Nat} (h : SV w p n cap d) (hn : n ≤ 1000000) : Calls Try.prog 44 #[.slice p n cap] w fun e w' => e = .returned (.bool (finL d)) ∧ w' = w := by
  have HS : Hid (SV w p n cap d) := h
  have hl := h.len
  clear h
  have z0 : (n : Int) ≤ 1000000 := by omega
  go_enter Try.func44, Try.ntmps44
  go_wp2
  go_loopw [3] (fun vi wr => ∃ i : Nat, i ≤ n ∧ vi = .int .i64 i ∧ w = wr ∧ Hid (allN (fun i => fin (ab d[i]!)) i = true)) (fun vi _ => n - (intOf vi).toNat)
  case atStart => exact ⟨0, by omega, rfl, rfl, rfl⟩
  case round =>
    obtain ⟨i, hi, rfl, hw, HA⟩ := hrel
    subst hw
    by_cases hlt : i < n
    · obtain ⟨b, o, rfl, hr⟩ := HS.out.rd (by omega)
      have c0 := hr i (by omega)
      obtain ⟨x, hx⟩ : ∃ x, d[i]! = x := ⟨_, rfl⟩
      rw [hx] at c0
      have HX : Hid (d[i]! = x) := hx
      have z1 : (i : Int) < (n : Int) := by omega
      clear hr hx
      cases hb : fin (ab x)
      · go_wp2_with (go_at_call 32; (with_reducible refine (t32 x _).mono ?_); rintro e w' ⟨rfl, rfl⟩; rw [hb])
        go_ret
        refine ⟨?_, rfl⟩
        unfold finL
        simp only [allN_false (F := fun i => fin (ab d[i]!)) (i := i) (by show fin (ab d[i]!) = false; rw [HX.out, hb]) d.size (by omega)]
        rfl
      · go_wp2_with (go_at_call 32; (with_reducible refine (t32 x _).mono ?_); rintro e w' ⟨rfl, rfl⟩; rw [hb])
        go_roundw
        case rel => exact ⟨i + 1, by omega, by go_num, by trivial, by show (_ && fin (ab d[i]!)) = true; rw [HA.out, HX.out, hb]; rfl⟩
        case measure => simp [intOf]; omega
    · obtain rfl : i = n := by omega
      go_wp2
      go_ret
      exact ⟨by unfold finL; rw [hl, HA.out]; rfl, rfl⟩
set_option maxHeartbeats 1000000 in
/-- A sum by any closure that only draws. -/
theorem t38 {fg : Nat} {cb : Array Value} {F : Nat → Option Nat} {w : World} {n : Nat} (h0 : 0 < n) (hn : n ≤ 1000000) (V : ∀ i, i < n → ∀ k, Calls Try.prog fg (#[.int .i64 i] ++ cb) (w.drewN k) (FR (w.drewN k) (F i))) (eg : ∀ args w, (callFunc fg args).run Try.prog w = .ok (.enter fg args) w) :
    Calls Try.prog 38 #[.int .i64 n, .func (.func fg) #[] cb] w (FR w (sumN F n)) := by
  have HV : Hid (∀ i, i < n → ∀ k, Calls Try.prog fg (#[.int .i64 i] ++ cb) (w.drewN k) (FR (w.drewN k) (F i))) := V
  have C0 : Hid (Calls Try.prog fg (#[.int .i64 0] ++ cb) w (FR w (F 0))) := V 0 h0 0
  have z0 : (n : Int) ≤ 1000000 := by omega
  clear V
  go_enter Try.func38, Try.ntmps38
  go_wp2_with fail
  with_reducible refine C0.out.mono ?_
  rintro e w1 ⟨r0, n0, rfl, rfl, HR0⟩
  clear C0
  go_wp2
  go_loopw [5, 6] (fun vs vi wr => ∃ i r k : Nat, i < n ∧ vs = .float .f64 r ∧ vi = .int .i64 ((i : Int) + 1) ∧ wr = w.drewN k ∧ Hid (ab r = sumN F (i + 1))) (fun _ vi _ => (n : Int).toNat - (intOf vi).toNat)
  case atStart => exact ⟨0, r0, n0, h0, rfl, rfl, rfl, HR0.out⟩
  case round =>
    clear HR0
    obtain ⟨i, r, k, hi, rfl, rfl, rfl, hr⟩ := hrel
    by_cases hlt : i + 1 < n
    · have hz : (i : Int) + 1 < (n : Int) := by omega
      have C1 : Hid (Calls Try.prog fg (#[.int .i64 ((i : Int) + 1)] ++ cb) (w.drewN k) (FR (w.drewN k) (F (i + 1)))) := by
        have := HV.out (i + 1) hlt k
        rwa [show ((i + 1 : Nat) : Int) = (i : Int) + 1 by omega] at this
      go_wp2_with fail
      with_reducible refine C1.out.mono ?_
      rintro e w2 ⟨r1, n1, rfl, rfl, HR1⟩
      clear C1
      go_wp2_with ((with_reducible refine upon_fl (by simp) ?_); intro r3 k3 hr3)
      go_roundw
      case rel => exact ⟨i + 1, r3, _, by omega, rfl, by go_num, by first | rfl | (simp only [World.drewN_drewN]; rfl), by show _ = _; rw [sumN_step, ← hr.out, ← HR1.out]; exact hr3.out⟩
      case measure => simp [intOf]; omega
    · have he : i + 1 = n := by omega
      have hz : ¬ (i : Int) + 1 < (n : Int) := by omega
      have HE : Hid _ := he
      clear he
      go_wp2
      go_ret
      refine FR.mkN ?_
      rw [hr.out, HE.out]
theorem t39 {w : World} {g : Nat} {p : Option Addr} {n cap : Nat} {d : Array Nat} (h : SV w p n cap d) (hg : w.cell? ⟨g, 0, none⟩ = some (.slice p n cap)) {i : Nat} (hi : i < n) (hn : n ≤ 1000000) : Calls Try.prog 39 #[.int .i64 i, .pointer (some ⟨g, 0, none⟩)] w (FR w (ab d[i]!)) := by
  obtain ⟨b, o, rfl, hr⟩ := h.rd (by omega)
  have c0 := hr i (by rw [h.len]; exact hi)
  generalize d[i]! = x at *
  have z1 : (i : Int) < (n : Int) := by omega
  clear hr h
  go_enter Try.func39, Try.ntmps39
  go_wp2
  go_ret
  exact FR.mk0 rfl
theorem t40 {w : World} {g : Nat} {p : Option Addr} {n cap : Nat} {d : Array Nat} (h : SV w p n cap d) (hg : w.cell? ⟨g, 0, none⟩ = some (.slice p n cap)) {i : Nat} (hi : i < n) (hn : n ≤ 1000000) : Calls Try.prog 40 #[.int .i64 i, .pointer (some ⟨g, 0, none⟩)] w (FR w (ab d[i]!)) := by
  obtain ⟨b, o, rfl, hr⟩ := h.rd (by omega)
  have c0 := hr i (by rw [h.len]; exact hi)
  generalize d[i]! = x at *
  have z1 : (i : Int) < (n : Int) := by omega
  clear hr h
  go_enter Try.func40, Try.ntmps40
  go_wp2
  go_ret
  exact FR.mk0 rfl
end Go.Proofs.Ytcgbmcnefolgcaa

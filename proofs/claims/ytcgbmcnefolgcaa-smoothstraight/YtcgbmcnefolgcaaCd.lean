/- What is wrong with states; Back, the program's. -/
import Derived.Test.YtcgbmcnefolgcaaCc
namespace Go.Proofs.Ytcgbmcnefolgcaa
open Go.ChangeShapes Go.WideShapes Go.ChangeAt Go.RowKit Go.Fl Go.Sort
attribute [local go_sem] run_store_float call22 call54 run_neg fold_eq fold_ne fold_lt fold_gt abs_eq

def lastsF (x : Option Nat) : Bool := fin x && geF x (ab 0)
def bakE (n : Nat) (S : Nat → Stt) (d : Array Nat) (sway : Option Nat) : Int :=
  if 1024 < n then 3 else if d.size = n - 1 then (if (lastsF sway && (allN (fun i => mayF (S i).ab) n && allN (fun i => lastsF (ab d[i]!)) d.size)) = true then 0 else 6) else 5
theorem bakE_may {n : Nat} {S : Nat → Stt} {d : Array Nat} {q : Option Nat} (h : bakE n S d q = 0) : n ≤ 1024 ∧ d.size = n - 1 ∧ lastsF q = true ∧ (∀ i, i < n → mayF (S i).ab = true) ∧ ∀ i, i < d.size → lastsF (ab d[i]!) = true := by
  unfold bakE at h
  split at h
  · cases h
  · split at h
    · split at h
      · rename_i h1 h2 h3
        simp only [Bool.and_eq_true, allN_iff] at h3
        exact ⟨by omega, h2, h3.1, h3.2.1, h3.2.2⟩
      · cases h
    · cases h
set_option maxHeartbeats 4000000 in
theorem t29 {w : World} {p p2 : Option Addr} {n cap m cap2 : Nat} {S : Nat → Stt} {d : Array Nat} (q : Nat) (h : SS w p n cap S) (h2 : SV w p2 m cap2 d) : Calls Try.prog 29 #[.slice p n cap, .slice p2 m cap2, .float .f64 q] w fun e w' => e = .returned (.int .i64 (bakE n S d (ab q))) ∧ Hid (Up w w') := by
  have hl := h2.len
  have HS : Hid (SS w p n cap S) := h
  have HV : Hid (SV w p2 m cap2 d) := h2
  have HE : Hid (bakE n S d (ab q) = if 1024 < n then 3 else if m = n - 1 then (if (lastsF (ab q) && (allN (fun i => mayF (S i).ab) n && allN (fun i => lastsF (ab d[i]!)) m)) = true then 0 else 6) else 5) := by show _ = _; unfold bakE; rw [hl]
  clear h h2
  by_cases k1 : 1024 < n
  · have z1 : (1024 : Int) < (n : Int) := by omega
    go_enter Try.func29, Try.ntmps29
    go_wp2
    go_ret
    exact ⟨by rw [HE.out, if_pos k1]; rfl, Up.refl _⟩
  have z1 : ¬ (1024 : Int) < (n : Int) := by omega
  rw [if_neg k1] at HE
  have hmax : (if (n : Int) - 1 < 0 then (0 : Int) else (n : Int) - 1) = ((n - 1 : Nat) : Int) := by split <;> omega
  obtain ⟨n1, hn1⟩ : ∃ n1, n - 1 = n1 := ⟨_, rfl⟩
  rw [hn1] at hmax HE
  have HN1 : Hid (n - 1 = n1) := hn1
  clear hn1
  by_cases k2 : m = n1
  · subst k2
    rw [if_pos rfl] at HE
    have z2 : (n : Int) ≤ 1024 := by omega
    have z3 : (m : Int) ≤ 1024 := by have := HN1.out; omega
    cases k3 : lastsF (ab q)
    · go_enter Try.func29, Try.ntmps29
      go_wp2_with (go_at_call 55; (with_reducible refine (t55 _ _).mono ?_); rintro e w' ⟨rfl, rfl⟩; rw [show (fin (ab q) && geF (ab q) (ab 0)) = false from k3])
      go_ret
      exact ⟨by rw [HE.out, k3]; rfl, Up.refl _⟩
    · rw [k3] at HE
      go_enter Try.func29, Try.ntmps29
      go_wp2_with (go_at_call 55; (with_reducible refine (t55 _ _).mono ?_); rintro e w' ⟨rfl, hw⟩; subst w'; rw [show (fin (ab q) && geF (ab q) (ab 0)) = true from k3])
      go_loopw [8, 29] (fun _ vi wr => ∃ i : Nat, i ≤ n ∧ vi = .int .i64 i ∧ Hid (Up w wr) ∧ Hid (allN (fun i => mayF (S i).ab) i = true)) (fun _ vi _ => n - (intOf vi).toNat)
      case atStart => exact ⟨0, by omega, rfl, Up.refl _, rfl⟩
      case round =>
        obtain ⟨i, hi, rfl, HU, HA⟩ := hrel
        rename World => wr
        by_cases hlt : i < n
        · obtain ⟨b, o, rfl, hr⟩ := HS.out.rd (by omega)
          obtain ⟨c0, c1, c2, c3, c4⟩ := (hr i hlt).up HU.out
          obtain ⟨s, hs⟩ : ∃ s, S i = s := ⟨_, rfl⟩
          rw [hs] at c0 c1 c2 c3 c4
          have HX : Hid (S i = s) := hs
          obtain ⟨x, v, a, b', c⟩ := s
          simp only at c0 c1 c2 c3 c4
          have z4 : (i : Int) < (n : Int) := by omega
          clear hr hs
          cases hb : mayF ⟨ab x, ab v, ab a, ab b', ab c⟩
          · go_wp2_with (go_at_call 23; (with_reducible refine (t23 x v a b' c _).mono ?_); rintro e w1 ⟨rfl, U1⟩; rw [hb])
            go_ret
            refine ⟨?_, (HU.out.al _).trans U1.out⟩
            rw [HE.out, allN_false (F := fun i => mayF (S i).ab) (i := i) (by show mayF (S i).ab = false; rw [HX.out]; exact hb) n hlt]
            rfl
          · go_wp2_with (go_at_call 23; (with_reducible refine (t23 x v a b' c _).mono ?_); rintro e w1 ⟨rfl, U1⟩; rw [hb])
            go_roundw
            case rel => exact ⟨i + 1, by omega, by go_num, (HU.out.al _).trans U1.out, by show (_ && mayF (S i).ab) = true; rw [HA.out, HX.out]; exact hb⟩
            case measure => simp [intOf]; omega
        · obtain rfl : i = n := by omega
          rw [HA.out] at HE
          clear HA
          go_wp2
          go_loopw [10, 39] (fun _ vi wr' => ∃ i : Nat, i ≤ m ∧ vi = .int .i64 i ∧ wr = wr' ∧ Hid (allN (fun i => lastsF (ab d[i]!)) i = true)) (fun _ vi _ => m - (intOf vi).toNat)
          case atStart => exact ⟨0, by omega, rfl, rfl, rfl⟩
          case round =>
            obtain ⟨j, hj, rfl, hw, HA⟩ := hrel
            subst hw
            by_cases hlt2 : j < m
            · obtain ⟨b, o, rfl, hr⟩ := HV.out.rd (by omega)
              have c0 := cell_up (hr j (by omega)) HU.out
              obtain ⟨x, hx⟩ : ∃ x, d[j]! = x := ⟨_, rfl⟩
              rw [hx] at c0
              have HX : Hid (d[j]! = x) := hx
              have z4 : (j : Int) < (m : Int) := by omega
              clear hr hx
              cases hb : lastsF (ab x)
              · go_wp2_with (go_at_call 55; (with_reducible refine (t55 _ _).mono ?_); rintro e w' ⟨rfl, hw⟩; subst w'; rw [show (fin (ab x) && geF (ab x) (ab 0)) = false from hb])
                go_ret
                refine ⟨?_, HU⟩
                rw [HE.out, allN_false (F := fun i => lastsF (ab d[i]!)) (i := j) (by show lastsF (ab d[j]!) = false; rw [HX.out]; exact hb) m hlt2]
                rfl
              · go_wp2_with (go_at_call 55; (with_reducible refine (t55 _ _).mono ?_); rintro e w' ⟨rfl, hw⟩; subst w'; rw [show (fin (ab x) && geF (ab x) (ab 0)) = true from hb])
                go_roundw
                case rel => exact ⟨j + 1, by omega, by go_num, by trivial, by show (_ && lastsF (ab d[j]!)) = true; rw [HA.out, HX.out]; exact hb⟩
                case measure => simp [intOf]; omega
            · obtain rfl : j = m := by omega
              rw [HA.out] at HE
              go_wp2
              go_ret
              exact ⟨by rw [HE.out]; rfl, HU⟩
  · rw [if_neg k2] at HE
    have z2 : ((m : Int) == (n1 : Int)) = false := by rw [beq_eq_false_iff_ne]; omega
    go_enter Try.func29, Try.ntmps29
    go_wp2
    go_ret
    exact ⟨by rw [HE.out]; rfl, Up.refl _⟩
end Go.Proofs.Ytcgbmcnefolgcaa

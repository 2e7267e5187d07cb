/- Two rows held against each other. -/
import Derived.Test.YtjnggbpifclpcaaS
namespace Go.Proofs.Ytjnggbpifclpcaa
open Go.ChangeShapes Go.WideShapes Go.ChangeAt Go.RowKit Go.Fl Ieee
attribute [local go_sem] run_store_float run_store_complex call34 call33 run_neg fold_eq fold_ne fold_lt fold_gt abs_eq

theorem t74t {x y x' y' : Nat} (w : World) (h : ab x = ab x') (k : ab y = ab y') : Calls Try.prog 74 #[.agg #[.float .f64 x, .float .f64 y], .agg #[.float .f64 x', .float .f64 y']] w fun e w' => e = .returned (.bool true) ∧ Hid (Up w w') :=
  (t74 x y x' y' w).mono fun _ _ ⟨he, hw⟩ => ⟨by rw [he, h, k]; simp, hw⟩
theorem same_at {d d' : List (Nat × Nat)} (h : d.map ab2 = d'.map ab2) {i : Nat} (hi : i < d.length) : ab d[i]!.1 = ab d'[i]!.1 ∧ ab d[i]!.2 = ab d'[i]!.2 := by
  have hl : d.length = d'.length := by simpa using congrArg List.length h
  have e := congrArg (fun l => l[i]?) h
  simp only [List.getElem?_map, List.getElem?_eq_getElem hi, List.getElem?_eq_getElem (show i < d'.length by omega), Option.map_some, Option.some.injEq, ab2, Prod.mk.injEq] at e
  rw [getElem!_pos d i hi, getElem!_pos d' i (by omega)]
  exact e
def TU (w : World) (e : Ending) (w' : World) : Prop := e = .returned (.bool true) ∧ Hid (Up w w')
set_option maxHeartbeats 1000000 in
theorem t54 {b b' : Nat} {v v' : Value} {d d' : List (Nat × Nat)} {w : World} (h : SRow b w v d) (h' : SRow b' w v' d') (hs : d.map ab2 = d'.map ab2) (hn : d.length < 1000000000) : Calls Try.prog 54 #[v, v'] w (TU w) := by
  have hl : d.length = d'.length := by simpa using congrArg List.length hs
  obtain ⟨p, cap, rfl, hp⟩ := own_form h
  obtain ⟨p', cap', rfl, hp'⟩ := own_form h'
  have HR : Hid (SRow b w (.slice p d.length cap) d) := h
  have HR' : Hid (SRow b' w (.slice p' d'.length cap') d') := h'
  have HP : Hid (0 < d.length → ∃ g, p = some ⟨g, 0, none⟩) := hp
  have HP' : Hid (0 < d'.length → ∃ g, p' = some ⟨g, 0, none⟩) := hp'
  have HS : Hid _ := hs
  clear h hp h' hp' hs
  rw [← hl] at HR' HP' ⊢
  generalize hN : d.length = N at *
  have HN : Hid (d.length = N) := hN
  have HN' : Hid (N = d'.length) := hl
  clear hN hl
  go_enter Try.func54, Try.ntmps54
  go_wp2
  go_loopw [5, 6] (fun i _ wr => ∃ k : Nat, k ≤ N ∧ i = .int .i64 k ∧ Hid (Up w wr)) (fun i _ _ => N - (intOf i).toNat)
  case atStart => exact ⟨0, by omega, rfl, Up.refl _⟩
  case round =>
    obtain ⟨k, hk, rfl, HU⟩ := hrel
    by_cases hlt : k < N
    · obtain ⟨g, hg⟩ := HP.out (by omega)
      obtain ⟨g', hg'⟩ := HP'.out (by omega)
      subst hg
      subst hg'
      obtain ⟨x, y, HX, hc1, hc2⟩ : ∃ x y, Hid (d[k]! = (x, y)) ∧ wr.cell? ⟨g, k * 2, none⟩ = some (.float .f64 x) ∧ wr.cell? ⟨g, k * 2 + 1, none⟩ = some (.float .f64 y) := ⟨_, _, rfl, (HR.out.up HU.out).cell (by have := HN.out; omega)⟩
      obtain ⟨x', y', HX', hc3, hc4⟩ : ∃ x y, Hid (d'[k]! = (x, y)) ∧ wr.cell? ⟨g', k * 2, none⟩ = some (.float .f64 x) ∧ wr.cell? ⟨g', k * 2 + 1, none⟩ = some (.float .f64 y) := ⟨_, _, rfl, (HR'.out.up HU.out).cell (by have := HN'.out; omega)⟩
      have HE : Hid (ab x = ab x' ∧ ab y = ab y') := by
        have e := same_at HS.out (i := k) (by have := HN.out; omega)
        rw [HX.out, HX'.out] at e; exact e
      have hkz : (k : Int) < (N : Int) := by omega
      have hk0 : (0 : Int) ≤ (k : Int) := Int.natCast_nonneg _
      go_wp2_with fail
      go_region_held3 (fun w' => w'.cell? ⟨g, k * 2, none⟩ = some (.float .f64 x) ∧ w'.cell? ⟨g, k * 2 + 1, none⟩ = some (.float .f64 y) ∧ w'.cell? ⟨g', k * 2, none⟩ = some (.float .f64 x') ∧ w'.cell? ⟨g', k * 2 + 1, none⟩ = some (.float .f64 y'))
        (first | go_keep | (go_split_ands; refine ⟨?_, ?_, ?_, ?_⟩ <;> (refine cell_up ?_ hu.out; assumption)))
        ((go_at_call 74; refine (t74t _ HE.out.1 HE.out.2).mono ?_; rintro e w1 ⟨rfl, hu⟩))
      all_goals (try go_wp2)
      all_goals
        go_roundw
        case rel => exact ⟨k + 1, by omega, by go_num, (HU.out.trans (Up.drewN wr 1)).trans hu.out⟩
        case measure => simp [intOf]; omega
    · obtain rfl : k = N := by omega
      go_wp2
      go_ret
      exact ⟨rfl, HU⟩
theorem t25 {b b' : Nat} {v v' : Value} {d d' : List (Nat × Nat)} {w : World} (h : CRow b w v d) (h' : SRow b' w v' d') (hs : d.map ab2 = d'.map ab2) (hn : d.length < 1000000000) : Calls Try.prog 25 #[v, v'] w (TU w) := by
  have H : Hid (CRow b w v d) := h
  have H' : Hid (SRow b' w v' d') := h'
  clear h h'
  go_enter Try.func25, Try.ntmps25
  go_wp2_with (first
    | (go_at_call 55; refine (t55 H.out hn).mono ?_; rintro e w1 ⟨v1, rfl, h1, hu1⟩)
    | (go_at_call 54; refine (t54 h1.out (H'.out.up hu1.out) hs hn).mono ?_; rintro e w2 ⟨rfl, hu2⟩))
  go_ret
  exact ⟨rfl, hu1.out.trans hu2.out⟩
end Go.Proofs.Ytjnggbpifclpcaa

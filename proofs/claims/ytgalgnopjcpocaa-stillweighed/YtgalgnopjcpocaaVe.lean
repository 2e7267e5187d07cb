/- StillWeighed: the walk. -/
import Derived.Test.YtgalgnopjcpocaaVd
namespace Go.Proofs.Ytgalgnopjcpocaa
open Go.ChangeShapes Go.WideShapes Go.ChangeAt Go.RowKit Go.Fl Ieee
attribute [local go_sem] run_store_float run_store_c isSome_set call20 call33 run_neg fold_eq fold_ne fold_lt fold_gt abs_eq
set_option maxRecDepth 20000 in
set_option maxHeartbeats 8000000 in
/-- Where the law turns away. -/
theorem t6bad {w : World} {R ro N c : Nat} {p : Option Addr} {P : Nat → Option Addr} {Ln Cp : Nat → Nat} {f : Nat → Nat → Int × Int} {od mx my : Int} (h : GP w R ro N P Ln Cp f) (hp : 0 < N → p = some ⟨R, ro, none⟩) (hb : ¬ (1 ≤ N ∧ N ≤ 200 ∧ Ln 0 ≤ 200 ∧ 0 ≤ od ∧ od ≤ 8 ∧ od < N)) :
    Calls Try.prog 6 #[.slice p N c, .int .i64 od, .agg #[.int .i64 mx, .int .i64 my]] w (YS w) := by
  have H : Hid (GP w R ro N P Ln Cp f) := h
  have HP : Hid (0 < N → p = some ⟨R, ro, none⟩) := hp
  clear h hp
  go_enter Try.func6, Try.ntmps6
  go_upto_region 1 with fail
  obtain ⟨W0, hW0⟩ : ∃ W0, w.alloc (.cells #[.int .i64 mx, .int .i64 my] 47) = W0 := ⟨_, rfl⟩
  have U0 : Hid (Up w W0) := by show Up w W0; rw [← hW0]; exact Up.alloc _ _
  have HBX : Hid (W0.cell? ⟨w.heap.size, 0, none⟩ = some (.int .i64 mx) ∧ W0.cell? ⟨w.heap.size, 1, none⟩ = some (.int .i64 my)) := by
    constructor <;> (rw [← hW0]; simp)
  rw [hW0]
  generalize w.heap.size = bx at *
  clear HBX
  clear hW0
  by_cases a1 : 200 < N
  · have z1 : (200 : Int) < (N : Int) := by omega
    go_wp2_with (go_at_call 11; (with_reducible refine (t11 _).mono ?_); rintro e w1 ⟨rfl, U1⟩)
    go_ret
    exact ⟨rfl, U0.out.trans U1.out⟩
  · have z1 : ¬ (200 : Int) < (N : Int) := by omega
    rcases Nat.eq_zero_or_pos N with h0 | h0
    · subst h0
      by_cases a2 : od < 0
      · go_wp2_with (go_at_call 11; (with_reducible refine (t11 _).mono ?_); rintro e w1 ⟨rfl, U1⟩)
        go_ret
        exact ⟨rfl, U0.out.trans U1.out⟩
      · by_cases a3 : 8 < od
        · go_wp2_with (go_at_call 11; (with_reducible refine (t11 _).mono ?_); rintro e w1 ⟨rfl, U1⟩)
          go_ret
          exact ⟨rfl, U0.out.trans U1.out⟩
        · have z4 : (0 : Int) ≤ od := by omega
          go_wp2_with (go_at_call 11; (with_reducible refine (t11 _).mono ?_); rintro e w1 ⟨rfl, U1⟩)
          go_ret
          exact ⟨rfl, U0.out.trans U1.out⟩
    · have z2 : (0 : Int) < (N : Int) := by omega
      have c0 : W0.cell? ⟨R, ro, none⟩ = some (.slice (P 0) (Ln 0) (Cp 0)) := by simpa using cell_up (H.out.hdr 0 h0) U0.out
      obtain rfl := HP.out h0
      by_cases a4 : 200 < Ln 0
      · have z3 : (200 : Int) < (Ln 0 : Int) := by omega
        go_wp2_with (go_at_call 11; (with_reducible refine (t11 _).mono ?_); rintro e w1 ⟨rfl, U1⟩)
        go_ret
        exact ⟨rfl, U0.out.trans U1.out⟩
      · have z3 : ¬ (200 : Int) < (Ln 0 : Int) := by omega
        by_cases a2 : od < 0
        · go_wp2_with (go_at_call 11; (with_reducible refine (t11 _).mono ?_); rintro e w1 ⟨rfl, U1⟩)
          go_ret
          exact ⟨rfl, U0.out.trans U1.out⟩
        · by_cases a3 : 8 < od
          · go_wp2_with (go_at_call 11; (with_reducible refine (t11 _).mono ?_); rintro e w1 ⟨rfl, U1⟩)
            go_ret
            exact ⟨rfl, U0.out.trans U1.out⟩
          · have a5 : (N : Int) ≤ od := by omega
            go_wp2_with (go_at_call 11; (with_reducible refine (t11 _).mono ?_); rintro e w1 ⟨rfl, U1⟩)
            go_ret
            exact ⟨rfl, U0.out.trans U1.out⟩
end Go.Proofs.Ytgalgnopjcpocaa

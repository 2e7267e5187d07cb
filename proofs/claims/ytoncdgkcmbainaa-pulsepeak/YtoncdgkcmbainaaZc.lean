/- Barker's rows peak where they stand: the walk of the statement. -/
import Derived.Test.YtoncdgkcmbainaaZb
namespace Go.Proofs.Ytoncdgkcmbainaa
open Go.ChangeShapes Go.WideShapes Go.ChangeAt Go.RowKit Go.Fl Ieee
attribute [local go_sem] run_store_float run_store_complex call41 call40 run_neg fold_eq fold_ne fold_lt fold_gt abs_eq

def lens7 : List Int := [2, 3, 4, 5, 7, 11, 13]
/-- A row's signs. -/
def rowB (n : Nat) (k : Nat) : Bool := !((rowS n).get! k == 45)
theorem sign_row (n k : Nat) : signF (rowS n) k = so (sgnP (rowB n k)) := by
  unfold signF rowB
  cases h : (rowS (n : Int)).get! k == 45
  · have : ¬ (rowS (n : Int)).get! k = 45 := by simpa using h
    rw [if_neg this]; rfl
  · have : (rowS (n : Int)).get! k = 45 := by simpa using h
    rw [if_pos this]; rfl
/-- Moved, a Barker's row is hardly like itself. -/
def hardly (n : Nat) : Prop := ∀ d, d < n → 0 < d → (-1 ≤ sumZ (rowB n) (fun k => rowB n (k + d)) (n - d) ∧ sumZ (rowB n) (fun k => rowB n (k + d)) (n - d) ≤ 1) ∧ (-1 ≤ sumZ (fun k => rowB n (k + d)) (rowB n) (n - d) ∧ sumZ (fun k => rowB n (k + d)) (rowB n) (n - d) ≤ 1)
theorem hard2 : hardly 2 := by unfold hardly; decide +kernel
theorem hard3 : hardly 3 := by unfold hardly; decide +kernel
theorem hard4 : hardly 4 := by unfold hardly; decide +kernel
theorem hard5 : hardly 5 := by unfold hardly; decide +kernel
theorem hard7 : hardly 7 := by unfold hardly; decide +kernel
theorem hard11 : hardly 11 := by unfold hardly; decide +kernel
theorem hard13 : hardly 13 := by unfold hardly; decide +kernel
theorem hardly_all : hardly 2 ∧ hardly 3 ∧ hardly 4 ∧ hardly 5 ∧ hardly 7 ∧ hardly 11 ∧ hardly 13 := ⟨hard2, hard3, hard4, hard5, hard7, hard11, hard13⟩
structure Row7 (i N : Nat) : Prop where
  len : lens7[i]! = N
  two : 2 ≤ N
  most : N ≤ 13
  size : (rowS N).size = N
  hard : hardly N
  code : codeL ((i : Int) + 1) = barkerL N ∧ codeE ((i : Int) + 1) = 0
theorem row7 (i : Nat) (h : i < 7) : ∃ N, Row7 i N := by
  obtain ⟨h2, h3, h4, h5, h7, h11, h13⟩ := hardly_all
  match i, h with
  | 0, _ => exact ⟨2, rfl, by omega, by omega, rfl, h2, rfl, rfl⟩
  | 1, _ => exact ⟨3, rfl, by omega, by omega, rfl, h3, rfl, rfl⟩
  | 2, _ => exact ⟨4, rfl, by omega, by omega, rfl, h4, rfl, rfl⟩
  | 3, _ => exact ⟨5, rfl, by omega, by omega, rfl, h5, rfl, rfl⟩
  | 4, _ => exact ⟨7, rfl, by omega, by omega, rfl, h7, rfl, rfl⟩
  | 5, _ => exact ⟨11, rfl, by omega, by omega, rfl, h11, rfl, rfl⟩
  | 6, _ => exact ⟨13, rfl, by omega, by omega, rfl, h13, rfl, rfl⟩
theorem own_small {n j : Nat} (h1 : 1 ≤ n) (h2 : n ≤ 600) (hj : j < 2 * n - 1) (hne : j ≠ n - 1) (hh : hardly n) : ∃ x i, ownF (fun k => sgnP (rowB n k)) n j = (some x, some i) ∧ Fine 1 x i := by
  unfold ownF
  split
  · have hm : 1 ≤ n - (n - 1 - j) := by omega
    have r := sumR (rowB n) (fun k => rowB n (k + (n - 1 - j))) (n - (n - 1 - j)) hm (by omega)
    have b := (hh (n - 1 - j) (by omega) (by omega)).1
    rcases sumI (rowB n) (fun k => rowB n (k + (n - 1 - j))) (n - (n - 1 - j)) hm with h | h
    · exact ⟨_, _, by rw [r, h], fine_of (by omega) b.1 b.2 (Or.inl rfl)⟩
    · exact ⟨_, _, by rw [r, h], fine_of (by omega) b.1 b.2 (Or.inr rfl)⟩
  · have hm : 1 ≤ n - (j - (n - 1)) := by omega
    have r := sumR (fun k => rowB n (k + (j - (n - 1)))) (rowB n) (n - (j - (n - 1))) hm (by omega)
    have b := (hh (j - (n - 1)) (by omega) (by omega)).2
    rcases sumI (fun k => rowB n (k + (j - (n - 1)))) (rowB n) (n - (j - (n - 1))) hm with h | h
    · exact ⟨_, _, by rw [r, h], fine_of (by omega) b.1 b.2 (Or.inl rfl)⟩
    · exact ⟨_, _, by rw [r, h], fine_of (by omega) b.1 b.2 (Or.inr rfl)⟩
theorem OwnRow.small {w0 w : World} {g n cap : Nat} (h : OwnRow w0 w g n cap (rowB n)) (h1 : 1 ≤ n) (h2 : n ≤ 600) (hh : hardly n) {j : Nat} (hj : j < 2 * n - 1) (hne : j ≠ n - 1) : ∃ x i, w.cell? ⟨g, j, none⟩ = some (.complex .f64 x i) ∧ Fine 1 x i := by
  obtain ⟨d, g1, g2, g3⟩ := h.row
  obtain ⟨x, i, he, hf⟩ := own_small h1 h2 hj hne hh
  have hd := g3 j hj
  rw [he] at hd
  have hc := g2.cell (i := j) (by rw [g1]; exact hj)
  have e1 : d[j]!.1 = x := of_ab (congrArg Prod.fst hd)
  have e2 : d[j]!.2 = i := of_ab (congrArg Prod.snd hd)
  rw [e1, e2] at hc
  exact ⟨x, i, hc, hf⟩
def rowD (n : Nat) : List (Nat × Nat) := (List.range n).map fun k => sgnP (rowB n k)
theorem barker_so {N : Nat} (h : (rowS N).size = N) : barkerL N = (rowD N).map so := by
  unfold barkerL rowD
  rw [h, List.map_map]
  congr 1
  funext k
  exact sign_row N k
theorem k16 {i N : Nat} (h : Row7 i N) (w : World) : Calls Try.prog 16 #[.int .i64 N] w (KL w N (rowD N) 0) := by
  have h0 := h.two
  exact (t16 N w).mono fun _ _ hp => hp.known (barker_so h.size) (by simp [rowD]) (by omega) (by rw [barkerE, h.size, if_neg (by omega)])
theorem k18 {i N : Nat} (h : Row7 i N) (w : World) : Calls Try.prog 18 #[.int .i64 ((i : Int) + 1)] w (KL w N (rowD N) 0) := by
  have h0 := h.two
  exact (t18 ((i : Int) + 1) w).mono fun _ _ hp => hp.known (h.code.1.trans (barker_so h.size)) (by simp [rowD]) (by omega) h.code.2
theorem rowD_at {N k : Nat} (h : k < N) : (rowD N)[k]! = sgnP (rowB N k) := by
  rw [getElem!_pos _ k (by simpa [rowD] using h)]
  simp [rowD]
theorem KR.rd {w w' : World} {g n cap : Nat} (h : KR w w' g n cap (rowD n)) : RD w' g 0 n (fun k => sgnP (rowB n k)) := fun j hj => by
  rw [Nat.zero_add, h.1.cell (by rw [h.2.1]; exact hj), rowD_at hj]
  rfl
theorem k21 {i N g cap : Nat} {w0 w : World} (h : Row7 i N) (hk : KR w0 w g N cap (rowD N)) : Calls Try.prog 21 #[.slice (some ⟨g, 0, none⟩) N cap] w (OL w (fun k => sgnP (rowB N k)) N) := by
  have h1 := h.two
  have h2 := h.most
  exact t21 g 0 N cap _ w hk.rd (by omega) (by omega) hk.2.2
theorem last_sample (b : Bool) : ∃ y, sgnP b = (y, 0) ∧ eqF (ab y) (ab y) = true := by
  cases b
  · exact ⟨_, rfl, by decide +kernel⟩
  · exact ⟨_, rfl, by decide +kernel⟩
set_option maxHeartbeats 4000000 in
set_option maxRecDepth 100000 in
theorem t7 (w : World) : Calls Try.prog 7 #[] w (TU w) := by
  have hI : IRow (w.alloc (.cells #[.int .i64 2, .int .i64 3, .int .i64 4, .int .i64 5, .int .i64 7, .int .i64 11, .int .i64 13] 3)) (.slice (some ⟨w.heap.size, 0, none⟩) 7 7) lens7 := irow_new w lens7 3 rfl rfl
  have HI : Hid (∀ i, i < 7 → (w.alloc (.cells #[.int .i64 2, .int .i64 3, .int .i64 4, .int .i64 5, .int .i64 7, .int .i64 11, .int .i64 13] 3)).cell? ⟨w.heap.size, i, none⟩ = some (.int .i64 lens7[i]!)) := fun i hi => by
    obtain ⟨p, c, he, hc⟩ := hI
    simp only [Value.slice.injEq] at he
    obtain ⟨rfl, _, _⟩ := he
    obtain ⟨blk, off, hb, hcell⟩ := hc i hi
    cases hb
    rw [Nat.zero_add] at hcell
    exact hcell
  clear hI
  have HU0 : Hid (Up w (w.alloc (.cells #[.int .i64 2, .int .i64 3, .int .i64 4, .int .i64 5, .int .i64 7, .int .i64 11, .int .i64 13] 3))) := Up.alloc _ _
  go_enter Try.func7, Try.ntmps7
  go_wp2
  generalize w.alloc (.cells #[.int .i64 2, .int .i64 3, .int .i64 4, .int .i64 5, .int .i64 7, .int .i64 11, .int .i64 13] 3) = w1 at *
  generalize w.heap.size = gl at *
  go_loopw [2, 3, 4, 5, 6, 7, 8, 9, 10, 11] (fun vi _ _ _ _ _ _ _ _ _ wr => ∃ i : Nat, i ≤ 7 ∧ vi = .int .i64 i ∧ Hid (Up w1 wr)) (fun vi _ _ _ _ _ _ _ _ _ _ => 7 - (intOf vi).toNat)
  case atStart => exact ⟨0, by omega, rfl, Up.refl _⟩
  case round =>
    obtain ⟨i, hi7, rfl, HU⟩ := hrel
    by_cases hlt : i < 7
    · obtain ⟨N, HN⟩ := row7 i hlt
      have hc0 := cell_up (HI.out i hlt) HU.out
      rw [HN.len] at hc0
      have hN2 := HN.two
      have hN13 := HN.most
      have HN' : Hid (Row7 i N) := HN
      clear HN
      have hiz : (i : Int) < 7 := by omega
      obtain ⟨M, hM⟩ : ∃ M, M = 2 * N - 1 := ⟨_, rfl⟩
      have HM : Hid (M = 2 * N - 1) := hM
      have eM : 2 * (N : Int) - 1 = M := by omega
      have hMb : M ≤ 25 := by omega
      obtain ⟨m, hm⟩ : ∃ m, m = N - 1 := ⟨_, rfl⟩
      have Hm : Hid (m = N - 1) := hm
      have em : (N : Int) - 1 = m := by omega
      have hmM : (m : Int) < M := by omega
      have hmN : (m : Int) < N := by omega
      clear hM hm
      go_wp2_with (first
        | (go_at_call 16; (with_reducible refine (k16 HN'.out _).mono ?_); rintro e w2 ⟨g1, c1, rfl, r1, y1⟩)
        | (go_at_call 21; (with_reducible refine (k21 HN'.out r1.out).mono ?_); rintro e w3 ⟨vo, d, rfl, r3, y3, f3⟩; obtain ⟨g3, c3, hvo, hO⟩ := OwnRow.of r3.out f3.out (by omega); rw [← HM.out] at hvo; subst hvo; have HO : Hid (OwnRow w2 w3 g3 N c3 (rowB N)) := hO; clear r3 f3 hO))
      go_loopw [7, 8, 9] (fun vk _ _ wr => ∃ k : Nat, k ≤ M ∧ vk = .int .i64 k ∧ Hid (Up w3 wr)) (fun vk _ _ _ => M - (intOf vk).toNat)
      case atStart => exact ⟨0, by omega, rfl, Up.refl _⟩
      case round =>
        obtain ⟨k, hk, rfl, HU3⟩ := hrel
        by_cases hlt2 : k < M
        · have hkz : (k : Int) < (M : Int) := by omega
          by_cases hkm : k = m
          · subst hkm
            obtain ⟨i2, hc, q2⟩ := (HO.out.up HU3.out).mid (by omega) (by omega)
            rw [← Hm.out] at hc
            have okN := okB_at (z := N) (by omega) (by omega)
            have q1 : eqF (ab (floatOfInt .f64 (N : Int))) (ab (floatOfInt .f64 (N : Int))) = true := eqF_num okN.num
            have HW : Hid (isN (floatOfInt .f64 (N : Int)) = false ∧ floor (floatOfInt .f64 (N : Int)) = floatOfInt .f64 (N : Int)) := ⟨okN.num, okN.whole⟩
            clear okN
            go_wp2_with (first
              | (go_at_call 22; refine (t22k HW.out.1 HW.out.2 _).mono ?_; rintro e w4 ⟨rfl, m4, rfl⟩)
              | (go_at_call 23; refine (t23 _ _).mono ?_; rintro e w5 ⟨rfl, rfl⟩))
            go_roundw
            case rel => exact ⟨k + 1, by omega, by go_num, HU3.out.trans (Up.drewN _ _)⟩
            case measure => simp [intOf]; omega
          · obtain ⟨x, i2, hc, hf⟩ := (HO.out.up HU3.out).small (by omega) (by omega) HN'.out.hard (j := k) (by have := HM.out; omega) (by have := Hm.out; omega)
            have q1 := eqF_num hf.num
            have q2 := hf.nought
            have q3 : gtF (ab (Go.Fl.abs x)) (ab 4607182418800017408) = false := by
              have := hf.small
              rwa [show floatOfInt .f64 ((1 : Nat) : Int) = 4607182418800017408 by decide +kernel] at this
            have HF : Hid (Fine 1 x i2) := hf
            have hkm1 : ((k : Int) == (m : Int)) = false := by rw [beq_eq_false_iff_ne]; omega
            clear hf
            go_wp2_with (first
              | (go_at_call 22; refine (t22k HF.out.num HF.out.whole _).mono ?_; rintro e w4 ⟨rfl, m4, rfl⟩)
              | (go_at_call 23; refine (t23 _ _).mono ?_; rintro e w5 ⟨rfl, rfl⟩))
            go_roundw
            case rel => exact ⟨k + 1, by omega, by go_num, HU3.out.trans (Up.drewN _ _)⟩
            case measure => simp [intOf]; omega
        · obtain rfl : M = k := by omega
          obtain ⟨y, HY, q1⟩ := last_sample (rowB N m)
          have q0 : eqF (ab 0) (ab 0) = true := by decide +kernel
          have HY' : Hid ((rowD N)[m]! = (y, 0)) := by show _ = _; rw [rowD_at (by omega)]; exact HY
          clear HY
          go_wp2_with (go_at_call 18; (with_reducible refine (k18 HN'.out _).mono ?_); rintro e w6 ⟨g6, c6, rfl, r6, y6⟩; have cA := r6.out.cell (i := m) (by omega) HY'.out; have cB := (r1.out.up ((y3.out.trans HU3.out).trans y6.out)).cell (i := m) (by omega) HY'.out)
          have hm0 : (0 : Int) ≤ (m : Int) := Int.natCast_nonneg _
          have hwr : IntKind.i64.wrap ((N : Int) - 1) = m := by rw [IntKind.wrap_i64]; omega
          have hwr2 : IntKind.i64.wrap (m : Int) = m := by rw [IntKind.wrap_i64]; omega
          go_region_held3 (fun w' => w'.cell? ⟨g6, m, none⟩ = some (.complex .f64 y 0) ∧ w'.cell? ⟨g1, m, none⟩ = some (.complex .f64 y 0)) (go_keep) (fail)
          all_goals (try go_wp2)
          all_goals
            go_roundw
            case rel => exact ⟨i + 1, by omega, by go_num, ((((HU.out.trans y1.out).trans y3.out).trans HU3.out).trans y6.out).trans (Up.drewN _ 1)⟩
            case measure => simp [intOf]; omega
    · obtain rfl : i = 7 := by omega
      go_wp2_with (go_at_call 12; refine (t12 _).mono ?_; rintro e w9 ⟨rfl, y9⟩)
      go_ret
      exact ⟨rfl, (HU0.out.trans HU.out).trans y9.out⟩
end Go.Proofs.Ytoncdgkcmbainaa

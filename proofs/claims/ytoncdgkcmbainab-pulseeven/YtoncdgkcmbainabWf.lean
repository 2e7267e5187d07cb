/- Magnitudes and windows: the walk of the statement. -/
import Derived.Test.YtoncdgkcmbainabWe
namespace Go.Proofs.Ytoncdgkcmbainab
open Go.ChangeShapes Go.WideShapes Go.ChangeAt Go.RowKit Go.Fl Ieee
attribute [local go_sem] run_store_float run_store_complex call12 call18 run_neg fold_eq fold_ne fold_lt fold_gt abs_eq

theorem hup {a b c : World} (h : Hid (Up a b)) (k : Hid (Up b c)) : Hid (Up a c) := h.out.trans k.out
theorem near_nil (w : World) : Calls Try.prog 10 #[.slice none 0 0] w (TU w) := t10 (b := 0) (d := []) (World.ownsRow_nil _ _ _ _) (fun j hj => by simp at hj) (by simp)
theorem near_pl {b : Nat} {v : Value} {d : List (Nat × Nat)} {L : List (Option Nat × Option Nat)} {w w' : World} (h : Hid (CRow b w v d)) (hu : Hid (Up w w')) (he : Hid (d.map ab2 = L)) (hg : Hid (GoodL L)) (hl : Hid (L.length < 1000000)) : Calls Try.prog 10 #[v] w' (TU w') := by
  have : d.length = L.length := by simpa using congrArg List.length he.out
  exact t10 (h.out.up hu.out) (goodL_row he.out hg.out) (by have := hl.out; omega)
theorem chirpL_len (n : Int) (t : Option Nat) : (chirpL n t).length < 1000000 := by
  unfold chirpL
  repeat' split
  all_goals simp
  omega
theorem barkerL_len (n : Int) : (barkerL n).length < 1000000 := by
  rcases row_facts n with h | ⟨h1, h2, h3, h4, h5⟩
  · rw [barkerL, h]; decide
  · simp [barkerL]; omega
theorem frankL_len (n : Int) : (frankL n).length < 1000000 := by
  unfold frankL
  repeat' split
  all_goals simp
  rename_i h1 h2
  have : n.toNat * n.toNat ≤ 128 * 128 := Nat.mul_le_mul (by omega) (by omega)
  omega
theorem stepsL_len (o : List Int) (n : Int) : (stepsL o n).length < 1000000 := by
  unfold stepsL
  repeat' split
  · simp
  · simp
  · simp only [List.length_map, List.length_range]; omega
theorem len_ite {p : Prop} [Decidable p] {a b : List (Option Nat × Option Nat)} {N : Nat} (ha : a.length < N) (hb : b.length < N) : (if p then a else b).length < N := by
  split
  · exact ha
  · exact hb
theorem codeL_len (n : Int) : (codeL n).length < 1000000 := by
  unfold codeL
  repeat' (with_reducible refine len_ite ?_ ?_)
  all_goals first
    | with_reducible exact barkerL_len _
    | with_reducible exact frankL_len _
    | with_reducible exact chirpL_len _ _
    | with_reducible exact stepsL_len _ _
    | (show 1 < 1000000; omega)
    | (show 0 < 1000000; omega)
theorem t3b (n : Int) (x : Nat) (p : Option Addr) (K cap : Nat) (w : World) (h : n > 2000 ∨ (K : Int) > 100) : Calls Try.prog 3 #[.int .i64 n, .float .f64 x, .slice p K cap] w (TU w) := by
  by_cases h1 : n > 2000
  · go_enter Try.func3, Try.ntmps3
    go_wp2_with (go_at_call 4; refine (t4 _).mono ?_; rintro e w1 ⟨rfl, y1⟩)
    go_ret
    exact ⟨rfl, y1⟩
  · have h2 : (K : Int) > 100 := by omega
    go_enter Try.func3, Try.ntmps3
    go_wp2_with (go_at_call 4; refine (t4 _).mono ?_; rintro e w1 ⟨rfl, y1⟩)
    go_ret
    exact ⟨rfl, y1⟩
theorem t11n {kind n : Int} {N : Nat} {w : World} (h : (N : Int) = n) (h1 : 1 ≤ N) (h2 : N ≤ 16384) : Calls Try.prog 11 #[.int .i8 kind, .int .i64 n] w (WL w N (weightF kind N)) := by
  subst h
  exact t11 kind N w h1 h2
/-- What is known of a window's floats. -/
structure WinRow (w0 w : World) (g n : Nat) (F : Nat → Option Nat) : Prop where
  row : ∃ d : List Nat, w.ownsRow w0.heap.size 22 1 (.slice (some ⟨g, 0, none⟩) n n) n (d.map (Value.float .f64)) ∧ d.length = n ∧ ∀ j, j < n → ab d[j]! = F j
theorem WinRow.up {w0 w w' : World} {g n : Nat} {F : Nat → Option Nat} (h : WinRow w0 w g n F) (hu : Up w w') : WinRow w0 w' g n F := by
  obtain ⟨d, h1, h2, h3⟩ := h.row
  exact ⟨⟨d, owns_up h1 hu, h2, h3⟩⟩
theorem WinRow.cell {w0 w : World} {g n : Nat} {F : Nat → Option Nat} (h : WinRow w0 w g n F) {j y : Nat} (hj : j < n) (hy : F j = some y) : w.cell? ⟨g, j, none⟩ = some (.float .f64 y) := by
  obtain ⟨d, h1, h2, h3⟩ := h.row
  rw [World.ownsRow.cellAt h1 j (by omega), List.getElem?_map, List.getElem?_eq_getElem (by omega), Option.map_some, ← getElem!_pos d j (by omega)]
  have := h3 j hj
  rw [hy] at this
  rw [of_ab this]
/-- The other end. -/
def otherN (kind : Int) (n k : Nat) : Nat := if kind = 3 then n - 1 - k else if 0 < k then n - k else 0
theorem win_facts {kind : Int} {n k : Nat} (hk : k < n) (hn : n ≤ 16384) : ∃ y, weightF kind n k = some y ∧ weightF kind n (otherN kind n k) = some y ∧ otherN kind n k < n ∧ (gtF (ab y) (ab 0) || eqF (ab y) (ab 0)) = true ∧ (ltF (ab y) (ab 4607182418800017408) || eqF (ab y) (ab 4607182418800017408)) = true := by
  obtain ⟨y, h1, h2, h3, h4⟩ := weight_ok kind hk hn
  refine ⟨y, h1, ?_, ?_, ?_, ?_⟩
  · unfold otherN
    split
    · rename_i h; subst h; rw [weight_sym3 hk, h1]
    · rename_i h
      split
      · rename_i h0; rw [weight_sym kind h h0 hk hn, h1]
      · obtain rfl : k = 0 := by omega
        exact h1
  · unfold otherN
    split
    · omega
    · split <;> omega
  · rw [gtF_val h2 fzero.1, eqF_val h2 fzero.1, fzero.2]
    by_cases he : val y = 0
    · simp [he]
    · have : 0 < val y := by grind
      simp [this]
  · rw [ltF_val h2 fone.1, eqF_val h2 fone.1, fone.2]
    by_cases he : val y = 1
    · simp [he]
    · have : val y < 1 := by grind
      simp [this]
set_option maxHeartbeats 8000000 in
set_option maxRecDepth 100000 in
theorem t3 (n : Int) (x : Nat) (o : List Int) (p : Option Addr) (cap : Nat) (w : World) (hR : IRow w (.slice p o.length cap) o) (hn : n ≤ 2000) (hK : o.length ≤ 100) : Calls Try.prog 3 #[.int .i64 n, .float .f64 x, .slice p o.length cap] w (TU w) := by
  have HR : Hid (IRow w (.slice p o.length cap) o) := hR
  clear hR
  have b1 := Int.tmod_lt_of_pos n (show (0 : Int) < 40 by omega)
  have b2 : -40 < n.tmod 40 := Int.lt_tmod_of_pos n (show (0 : Int) < 40 by omega)
  have b3 := Int.tmod_lt_of_pos n (show (0 : Int) < 14 by omega)
  have b4 : -14 < n.tmod 14 := Int.lt_tmod_of_pos n (show (0 : Int) < 14 by omega)
  generalize e40 : n.tmod 40 = m40 at *
  generalize e14 : n.tmod 14 = m14 at *
  have hn2 : ¬ n > 2000 := by omega
  have hK2 : ¬ (o.length : Int) > 100 := by omega
  have HGF : Hid (GoodL (frankL m40)) := frank_goodL _
  have HGS : Hid (GoodL (stepsL o n)) := steps_goodL o n hn
  have HGC : Hid (GoodL (codeL m14)) := code_goodL _
  have HLF : Hid ((frankL m40).length < 1000000) := frankL_len _
  have HLS : Hid ((stepsL o n).length < 1000000) := stepsL_len _ _
  have HLC : Hid ((codeL m14).length < 1000000) := codeL_len _
  have HLA : Hid ((chirpL n (ab x)).length < 1000000) := chirpL_len _ _
  cases hb : (ltF (ab (Go.Fl.abs x)) (ab 8660422083433463808) || eqF (ab (Go.Fl.abs x)) (ab 8660422083433463808))
  · go_enter Try.func3, Try.ntmps3
    go_wp2_with (first
      | (go_at_call 5; (with_reducible refine (t5 _ _ _).mono ?_); rintro e w1 ⟨va, da, rfl, ra, y1, ea⟩)
      | (go_at_call 6; (with_reducible refine (t6 _ _).mono ?_); rintro e w' ⟨rfl, rfl⟩)
      | (go_at_call 7; (with_reducible refine (t7 _ _ (by omega)).mono ?_); rintro e w2 ⟨vb, db, rfl, rb, y2, eb⟩)
      | (go_at_call 8; (with_reducible refine (t8 o _ _ _ (HR.out.up (y1.out.trans y2.out)) (by omega) (by omega)).mono ?_); rintro e w3 ⟨vc, dc, rfl, rc, y3, ec⟩)
      | (go_at_call 9; (with_reducible refine (t9 _ _).mono ?_); rintro e w4 ⟨vd, dd, rfl, rd, y4, ed⟩)
      | (go_at_call 10; (with_reducible refine (near_nil _).mono ?_); rintro e w5 ⟨rfl, y5⟩)
      | (go_at_call 10; (with_reducible refine (near_pl rb (hup y3 (hup y4 y5)) eb HGF HLF).mono ?_); rintro e w6 ⟨rfl, y6⟩)
      | (go_at_call 10; (with_reducible refine (near_pl rc (hup y4 (hup y5 y6)) ec HGS HLS).mono ?_); rintro e w7 ⟨rfl, y7⟩)
      | (go_at_call 10; (with_reducible refine (near_pl rd (hup y5 (hup y6 y7)) ed HGC HLC).mono ?_); rintro e w8 ⟨rfl, y8⟩))
    have Y8 : Hid (Up w w8) := hup y1 (hup y2 (hup y3 (hup y4 (hup y5 (hup y6 (hup y7 y8))))))
    clear ra rb rc rd ea eb ec ed y1 y2 y3 y4 y5 y6 y7 y8
    go_loopw [15, 16, 17, 18] (fun vk _ _ _ wr => ∃ k : Nat, k ≤ 4 ∧ vk = .int .i8 k ∧ Hid (Up w wr)) (fun vk _ _ _ _ => 4 - (intOf vk).toNat)
    case atStart => exact ⟨0, by omega, rfl, Y8⟩
    case round =>
      clear Y8
      obtain ⟨kd, hk4, rfl, HU⟩ := hrel
      by_cases hlt : kd < 4
      · have hkz : (kd : Int) ≤ 3 := by omega
        by_cases hn1 : n < 1
        · have hn1' : ¬ n ≥ 1 := by omega
          go_wp2_with (go_at_call 11; (with_reducible refine (t11e _ _ _ (Or.inl hn1)).mono ?_); rintro e w9 ⟨rfl, rfl⟩)
          go_loopw [17, 18] (fun vk _ wr => vk = .int .i64 0 ∧ Hid (Up w wr)) (fun _ _ _ => 0)
          case atStart => exact ⟨rfl, HU⟩
          case round =>
            obtain ⟨rfl, HU2⟩ := hrel
            go_wp2
            go_roundw
            case rel => exact ⟨kd + 1, by omega, by go_num, HU2⟩
            case measure => simp [intOf]; omega
        · obtain ⟨N, hNn⟩ := Int.eq_ofNat_of_zero_le (show 0 ≤ n by omega)
          have eN : (N : Int) = n := hNn.symm
          clear hNn
          have hN1 : 1 ≤ N := by omega
          have hN2 : N ≤ 16384 := by omega
          go_wp2_with (go_at_call 11; (with_reducible refine (t11n eN hN1 hN2).mono ?_); rintro e w9 ⟨g, dw, rfl, rw9, y9, f9⟩; have HW : Hid (WinRow wr w9 g N (weightF kd N)) := ⟨dw, rw9.out, f9.out.1, f9.out.2⟩; have HU9 : Hid (Up w w9) := hup HU y9; clear rw9 f9 y9)
          go_loopw [17, 18] (fun vk _ wr => ∃ k : Nat, k ≤ N ∧ vk = .int .i64 k ∧ Hid (Up w9 wr)) (fun vk _ _ => N - (intOf vk).toNat)
          case atStart => exact ⟨0, by omega, rfl, Up.refl _⟩
          case round =>
            obtain ⟨k, hk, rfl, HU2⟩ := hrel
            by_cases hlt2 : k < N
            · have hkN : (k : Int) < n := by omega
              have hk0 : (0 : Int) ≤ (k : Int) := Int.natCast_nonneg _
              obtain ⟨y, e1, e2, e3, q1, q2⟩ := win_facts (kind := (kd : Int)) hlt2 hN2
              have c1 := (HW.out.up HU2.out).cell hlt2 e1
              have c2 := (HW.out.up HU2.out).cell e3 e2
              have HE : Hid (otherN kd N k = otherN kd N k) := rfl
              obtain ⟨ot, hot⟩ : ∃ ot, ot = otherN kd N k := ⟨_, rfl⟩
              rw [← hot] at c2 e3
              clear e1 e2 HE
              have hotN : (ot : Int) < n := by omega
              have hot0 : (0 : Int) ≤ (ot : Int) := Int.natCast_nonneg _
              unfold otherN at hot
              by_cases h3 : kd = 3
              · have h3' : ((kd : Int) == 3) = true := by rw [h3]; rfl
                rw [if_pos (by omega)] at hot
                have eo : n - 1 - k = ot := by omega
                clear hot h3
                go_wp2_with fail
                go_region_held3 (fun w' => w'.cell? ⟨g, k, none⟩ = some (.float .f64 y) ∧ w'.cell? ⟨g, ot, none⟩ = some (.float .f64 y)) (go_keep) (fail)
                all_goals (try go_wp2)
                all_goals
                  go_roundw
                  case rel => exact ⟨k + 1, by omega, by go_num, HU2.out.trans (Up.drewN _ 1)⟩
                  case measure => simp [intOf]; omega
              · have h3' : ((kd : Int) == 3) = false := by rw [beq_eq_false_iff_ne]; omega
                rw [if_neg (by omega)] at hot
                by_cases h0 : 0 < k
                · rw [if_pos h0] at hot
                  have eo : n - k = ot := by omega
                  clear hot
                  have h0' : (0 : Int) < (k : Int) := by omega
                  go_wp2_with fail
                  go_region_held3 (fun w' => w'.cell? ⟨g, k, none⟩ = some (.float .f64 y) ∧ w'.cell? ⟨g, ot, none⟩ = some (.float .f64 y)) (go_keep) (fail)
                  all_goals (try go_wp2)
                  all_goals
                    go_roundw
                    case rel => exact ⟨k + 1, by omega, by go_num, HU2.out.trans (Up.drewN _ 1)⟩
                    case measure => simp [intOf]; omega
                · obtain rfl : k = 0 := by omega
                  rw [if_neg h0] at hot
                  subst hot
                  clear c2
                  go_wp2_with fail
                  go_region_held3 (fun w' => w'.cell? ⟨g, 0, none⟩ = some (.float .f64 y) ) (go_keep) (fail)
                  all_goals (try go_wp2)
                  all_goals
                    go_roundw
                    case rel => exact ⟨1, by omega, rfl, HU2.out.trans (Up.drewN _ 1)⟩
                    case measure => simp [intOf]; omega
            · obtain rfl : N = k := by omega
              go_wp2
              go_roundw
              case rel => exact ⟨kd + 1, by omega, by go_num, hup HU9 HU2⟩
              case measure => simp [intOf]; omega
      · obtain rfl : kd = 4 := by omega
        go_wp2_with (go_at_call 4; refine (t4 _).mono ?_; rintro e w9 ⟨rfl, y9⟩)
        go_ret
        exact ⟨rfl, HU.out.trans y9.out⟩
  · have HGA : Hid (GoodL (chirpL n (ab x))) := chirp_goodL hn hb
    go_enter Try.func3, Try.ntmps3
    go_wp2_with (first
      | (go_at_call 5; (with_reducible refine (t5 _ _ _).mono ?_); rintro e w1 ⟨va, da, rfl, ra, y1, ea⟩)
      | (go_at_call 6; (with_reducible refine (t6 _ _).mono ?_); rintro e w' ⟨rfl, rfl⟩)
      | (go_at_call 7; (with_reducible refine (t7 _ _ (by omega)).mono ?_); rintro e w2 ⟨vb, db, rfl, rb, y2, eb⟩)
      | (go_at_call 8; (with_reducible refine (t8 o _ _ _ (HR.out.up (y1.out.trans y2.out)) (by omega) (by omega)).mono ?_); rintro e w3 ⟨vc, dc, rfl, rc, y3, ec⟩)
      | (go_at_call 9; (with_reducible refine (t9 _ _).mono ?_); rintro e w4 ⟨vd, dd, rfl, rd, y4, ed⟩)
      | (go_at_call 10; (with_reducible refine (near_pl ra (hup y2 (hup y3 y4)) ea HGA HLA).mono ?_); rintro e w5 ⟨rfl, y5⟩)
      | (go_at_call 10; (with_reducible refine (near_pl rb (hup y3 (hup y4 y5)) eb HGF HLF).mono ?_); rintro e w6 ⟨rfl, y6⟩)
      | (go_at_call 10; (with_reducible refine (near_pl rc (hup y4 (hup y5 y6)) ec HGS HLS).mono ?_); rintro e w7 ⟨rfl, y7⟩)
      | (go_at_call 10; (with_reducible refine (near_pl rd (hup y5 (hup y6 y7)) ed HGC HLC).mono ?_); rintro e w8 ⟨rfl, y8⟩))
    have Y8 : Hid (Up w w8) := hup y1 (hup y2 (hup y3 (hup y4 (hup y5 (hup y6 (hup y7 y8))))))
    clear ra rb rc rd ea eb ec ed y1 y2 y3 y4 y5 y6 y7 y8
    go_loopw [15, 16, 17, 18] (fun vk _ _ _ wr => ∃ k : Nat, k ≤ 4 ∧ vk = .int .i8 k ∧ Hid (Up w wr)) (fun vk _ _ _ _ => 4 - (intOf vk).toNat)
    case atStart => exact ⟨0, by omega, rfl, Y8⟩
    case round =>
      clear Y8
      obtain ⟨kd, hk4, rfl, HU⟩ := hrel
      by_cases hlt : kd < 4
      · have hkz : (kd : Int) ≤ 3 := by omega
        by_cases hn1 : n < 1
        · have hn1' : ¬ n ≥ 1 := by omega
          go_wp2_with (go_at_call 11; (with_reducible refine (t11e _ _ _ (Or.inl hn1)).mono ?_); rintro e w9 ⟨rfl, rfl⟩)
          go_loopw [17, 18] (fun vk _ wr => vk = .int .i64 0 ∧ Hid (Up w wr)) (fun _ _ _ => 0)
          case atStart => exact ⟨rfl, HU⟩
          case round =>
            obtain ⟨rfl, HU2⟩ := hrel
            go_wp2
            go_roundw
            case rel => exact ⟨kd + 1, by omega, by go_num, HU2⟩
            case measure => simp [intOf]; omega
        · obtain ⟨N, hNn⟩ := Int.eq_ofNat_of_zero_le (show 0 ≤ n by omega)
          have eN : (N : Int) = n := hNn.symm
          clear hNn
          have hN1 : 1 ≤ N := by omega
          have hN2 : N ≤ 16384 := by omega
          go_wp2_with (go_at_call 11; (with_reducible refine (t11n eN hN1 hN2).mono ?_); rintro e w9 ⟨g, dw, rfl, rw9, y9, f9⟩; have HW : Hid (WinRow wr w9 g N (weightF kd N)) := ⟨dw, rw9.out, f9.out.1, f9.out.2⟩; have HU9 : Hid (Up w w9) := hup HU y9; clear rw9 f9 y9)
          go_loopw [17, 18] (fun vk _ wr => ∃ k : Nat, k ≤ N ∧ vk = .int .i64 k ∧ Hid (Up w9 wr)) (fun vk _ _ => N - (intOf vk).toNat)
          case atStart => exact ⟨0, by omega, rfl, Up.refl _⟩
          case round =>
            obtain ⟨k, hk, rfl, HU2⟩ := hrel
            by_cases hlt2 : k < N
            · have hkN : (k : Int) < n := by omega
              have hk0 : (0 : Int) ≤ (k : Int) := Int.natCast_nonneg _
              obtain ⟨y, e1, e2, e3, q1, q2⟩ := win_facts (kind := (kd : Int)) hlt2 hN2
              have c1 := (HW.out.up HU2.out).cell hlt2 e1
              have c2 := (HW.out.up HU2.out).cell e3 e2
              have HE : Hid (otherN kd N k = otherN kd N k) := rfl
              obtain ⟨ot, hot⟩ : ∃ ot, ot = otherN kd N k := ⟨_, rfl⟩
              rw [← hot] at c2 e3
              clear e1 e2 HE
              have hotN : (ot : Int) < n := by omega
              have hot0 : (0 : Int) ≤ (ot : Int) := Int.natCast_nonneg _
              unfold otherN at hot
              by_cases h3 : kd = 3
              · have h3' : ((kd : Int) == 3) = true := by rw [h3]; rfl
                rw [if_pos (by omega)] at hot
                have eo : n - 1 - k = ot := by omega
                clear hot h3
                go_wp2_with fail
                go_region_held3 (fun w' => w'.cell? ⟨g, k, none⟩ = some (.float .f64 y) ∧ w'.cell? ⟨g, ot, none⟩ = some (.float .f64 y)) (go_keep) (fail)
                all_goals (try go_wp2)
                all_goals
                  go_roundw
                  case rel => exact ⟨k + 1, by omega, by go_num, HU2.out.trans (Up.drewN _ 1)⟩
                  case measure => simp [intOf]; omega
              · have h3' : ((kd : Int) == 3) = false := by rw [beq_eq_false_iff_ne]; omega
                rw [if_neg (by omega)] at hot
                by_cases h0 : 0 < k
                · rw [if_pos h0] at hot
                  have eo : n - k = ot := by omega
                  clear hot
                  have h0' : (0 : Int) < (k : Int) := by omega
                  go_wp2_with fail
                  go_region_held3 (fun w' => w'.cell? ⟨g, k, none⟩ = some (.float .f64 y) ∧ w'.cell? ⟨g, ot, none⟩ = some (.float .f64 y)) (go_keep) (fail)
                  all_goals (try go_wp2)
                  all_goals
                    go_roundw
                    case rel => exact ⟨k + 1, by omega, by go_num, HU2.out.trans (Up.drewN _ 1)⟩
                    case measure => simp [intOf]; omega
                · obtain rfl : k = 0 := by omega
                  rw [if_neg h0] at hot
                  subst hot
                  clear c2
                  go_wp2_with fail
                  go_region_held3 (fun w' => w'.cell? ⟨g, 0, none⟩ = some (.float .f64 y) ) (go_keep) (fail)
                  all_goals (try go_wp2)
                  all_goals
                    go_roundw
                    case rel => exact ⟨1, by omega, rfl, HU2.out.trans (Up.drewN _ 1)⟩
                    case measure => simp [intOf]; omega
            · obtain rfl : N = k := by omega
              go_wp2
              go_roundw
              case rel => exact ⟨kd + 1, by omega, by go_num, hup HU9 HU2⟩
              case measure => simp [intOf]; omega
      · obtain rfl : kd = 4 := by omega
        go_wp2_with (go_at_call 4; refine (t4 _).mono ?_; rintro e w9 ⟨rfl, y9⟩)
        go_ret
        exact ⟨rfl, HU.out.trans y9.out⟩
end Go.Proofs.Ytoncdgkcmbainab

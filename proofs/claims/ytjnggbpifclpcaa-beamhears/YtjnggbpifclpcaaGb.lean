/- BeamHears: the walk. -/
import Derived.Test.YtjnggbpifclpcaaGa
namespace Go.Proofs.Ytjnggbpifclpcaa
open Go.ChangeShapes Go.WideShapes Go.ChangeAt Go.RowKit Go.Fl Ieee
attribute [local go_sem] run_store_float run_store_complex call34 call33 run_neg fold_eq fold_ne fold_lt fold_gt abs_eq

theorem own_cap {b t s n c k : Nat} {w : World} {p : Option Addr} {xs : List Value} (h : w.ownsRow b t s (.slice p n c) k xs) : k ≤ c ∧ n = k := by
  rcases h.2 with ⟨e, h0⟩ | ⟨g, c0, cur, e, _, _, h4, _⟩
  · simp only [Value.slice.injEq] at e; omega
  · simp only [Value.slice.injEq] at e; omega
/-- Steer, where it tells numbers. -/
def StC (N : Nat) (F : Nat → CN) (w : World) (e : Ending) (w' : World) : Prop := ∃ (g c : Nat) (d : List (Nat × Nat)), e = .returned (.tuple #[.slice (some ⟨g, 0, none⟩) N c, .int .i64 0]) ∧ N ≤ c ∧ Hid (∀ j, j < N → w'.cell? ⟨g, j, none⟩ = some (.complex .f64 d[j]!.1 d[j]!.2) ∧ ab2 d[j]! = F j) ∧ Hid (Up w w')
theorem t8c {N : Nat} {x y : Nat} {w : World} (h0 : 1 ≤ N) (h : steerL N (ab x) (ab y) = (List.range N).map (steerF (ab x) (ab y))) (he : steerE N (ab x) (ab y) = 0) : Calls Try.prog 8 #[.int .i64 N, .float .f64 x, .float .f64 y] w (StC N (steerF (ab x) (ab y)) w) := by
  have q := t8 N x y w
  rw [h, he] at q
  refine q.mono fun e w' ⟨v, d, h1, h2, h3, h4⟩ => ?_
  obtain ⟨p, c, e1, hg⟩ := own_form h2.out
  have hl : d.length = N := by simpa using congrArg List.length h4.out
  obtain ⟨g, rfl⟩ := hg (by omega)
  subst e1
  have hc := h2.out
  refine ⟨g, c, d, by rw [h1, hl], by have := (own_cap hc).1; omega, fun j hj => ⟨hc.cell (show j < d.length by omega), ?_⟩, h3⟩
  have q := congrArg (fun l => l[j]?) h4.out
  simp only [List.getElem?_map, List.getElem?_eq_getElem (show j < d.length by omega), List.getElem?_range hj, Option.map_some, Option.some.injEq] at q
  rw [getElem!_pos d j (by omega)]
  exact q
set_option maxHeartbeats 8000000 in
set_option maxRecDepth 20000 in
theorem t6a (n : Int) (x y : Nat) (w : World) (h : steerL n (ab x) (ab y) = []) (he : steerE n (ab x) (ab y) = 2 ∨ steerE n (ab x) (ab y) = 3 ∨ steerE n (ab x) (ab y) = 6) : Calls Try.prog 6 #[.int .i64 n, .float .f64 x, .float .f64 y] w (TU w) := by
  have H8 : Hid (Calls Try.prog 8 #[.int .i64 n, .float .f64 x, .float .f64 y] w fun e w' => ∃ p c, e = .returned (.tuple #[.slice p 0 c, .int .i64 (steerE n (ab x) (ab y))]) ∧ Hid (Up w w')) := t8e h
  rcases he with he | he | he
  all_goals
    rw [he] at H8
    clear h he
    go_enter Try.func6, Try.ntmps6
    go_wp2_with (first
      | (go_at_call 8; (with_reducible refine H8.out.mono ?_); rintro e w1 ⟨p1, c1, rfl, U1⟩)
      | (go_at_call 10; (with_reducible refine (t10 _).mono ?_); rintro e w2 ⟨rfl, U2⟩))
    go_ret
    exact ⟨rfl, U1.out.trans U2.out⟩
set_option maxHeartbeats 8000000 in
set_option maxRecDepth 20000 in
theorem t6b (N x y : Nat) (w : World) (h0 : 1 ≤ N) (h : steerL N (ab x) (ab y) = (List.range N).map (steerF (ab x) (ab y))) (he : steerE N (ab x) (ab y) = 0) (hb : (ltF (ab (Go.Fl.abs x)) (ab 8660422083433463808) || eqF (ab (Go.Fl.abs x)) (ab 8660422083433463808)) = false) : Calls Try.prog 6 #[.int .i64 N, .float .f64 x, .float .f64 y] w (TU w) := by
  have H8 : Hid (Calls Try.prog 8 #[.int .i64 N, .float .f64 x, .float .f64 y] w (StR N (steerF (ab x) (ab y)) w)) := t8s h0 h he
  clear h he
  go_enter Try.func6, Try.ntmps6
  go_wp2_with (first
    | (go_at_call 8; (with_reducible refine H8.out.mono ?_); rintro e w1 ⟨g1, c1, d1, rfl, HD1, U1⟩)
    | (go_at_call 14; (with_reducible refine (t14 _ _).mono ?_); rintro e w' ⟨rfl, hw⟩; subst w')
    | (go_at_call 10; (with_reducible refine (t10 _).mono ?_); rintro e w2 ⟨rfl, U2⟩))
  go_ret
  exact ⟨rfl, U1.out.trans U2.out⟩
/-- Rows that are cut out of one list, one number each: the first k of them. -/
def cutL (g c k : Nat) : List Value := (List.range k).map fun i => .slice (some ⟨g, i, none⟩) 1 (c - i)
theorem cutL_step (g c k : Nat) : cutL g c (k + 1) = cutL g c k ++ [.slice (some ⟨g, k, none⟩) 1 (c - k)] := by
  unfold cutL
  rw [List.range_succ, List.map_append]
  rfl
structure CT (w w' : World) (v : Value) (g c k : Nat) : Prop where
  row : w'.ownsRow w.heap.size 27 1 v k (cutL g c k)
  up : Up w w'
theorem CT.start (w : World) (g c : Nat) : CT w w (.slice none 0 0) g c 0 := ⟨World.ownsRow_nil _ _ _ _, Up.refl _⟩
theorem one_cells' (g k c : Nat) : ∀ u ∈ [Value.slice (some ⟨g, k, none⟩) 1 c], u.oneCell' = true := by
  intro u hu; simp at hu; subst hu; rfl
theorem cell_news (w : World) (v : Value) (t : TypeId) : ∀ (j : Nat) (u : Value), [v][j]? = some u → (w.alloc (.cells #[v] t)).cell? ((⟨w.heap.size, 0, none⟩ : Addr).add j) = some u := by
  intro j u hj
  match j, hj with
  | 0, hj => simp at hj; subst hj; exact World.cell?_alloc_at _ _ _ _ rfl
theorem CT.table {w w' : World} {v : Value} {g c N : Nat} {d : List (Nat × Nat)} (h : CT w w' v g c N) (h1 : 1 ≤ N) (hd : ∀ j, j < N → w.cell? ⟨g, j, none⟩ = some (.complex .f64 d[j]!.1 d[j]!.2)) (hc : N ≤ c) : ∃ p k, v = .slice p N k ∧ TR w' p N (fun _ => 1) (fun i _ => d[i]!) ∧ RowV w' (some ⟨g, 0, none⟩) N (fun j => d[j]!) := by
  obtain ⟨p, k, e, hp⟩ : ∃ p k, v = .slice p N k ∧ (0 < N → ∃ T, p = some ⟨T, 0, none⟩) := by
    rcases h.row.2 with ⟨e, h0⟩ | ⟨T, c0, cur, e, _⟩
    · exact ⟨_, _, by rw [e, h0], fun h => by omega⟩
    · exact ⟨_, _, e, fun _ => ⟨T, rfl⟩⟩
  subst e
  obtain ⟨T, rfl⟩ := hp (by omega)
  refine ⟨_, k, rfl, fun _ => ⟨T, 0, rfl, fun i hi => ?_⟩, fun _ => ⟨g, 0, rfl, fun j hj => ?_⟩⟩
  · refine ⟨some ⟨g, i, none⟩, c - i, ?_, show 1 ≤ c - i by omega, fun _ => ⟨g, i, rfl, fun j hj => ?_⟩⟩
    · rw [Nat.zero_add, World.ownsRow.cellAt h.row i (by omega)]
      unfold cutL
      rw [List.getElem?_map, List.getElem?_range hi]
      rfl
    · have : j = 0 := by have : j < 1 := hj; omega
      subst this
      rw [Nat.add_zero]
      exact cell_up (hd i hi) h.up
  · rw [Nat.zero_add]
    exact cell_up (hd j hj) h.up
theorem CT.push {w wr w3 : World} {v v' u : Value} {g c k : Nat} (h : CT w wr v g c k) (ho : w3.ownsRow w.heap.size 27 1 v' (k + 1) (cutL g c k ++ [.slice (some ⟨g, k, none⟩) 1 (c - k)])) (hg : (wr.alloc (.cells #[u] 27)).grownBy w3 v.ownBlock) : CT w w3 v' g c (k + 1) := by
  refine ⟨by rw [cutL_step]; exact ho, ?_⟩
  have h1 : Up w (wr.alloc (.cells #[u] 27)) := h.up.trans (Up.alloc _ _)
  exact Below.grown h1 hg h1.size (fun j hj => (World.ownsRow.lt h.row j hj).1)
/-- What the walk asks of the numbers. -/
theorem form_self {N : Nat} {d : List (Nat × Nat)} {F : Nat → CN} (h : ∀ j, j < N → ab2 d[j]! = F j) : formF (fun i _ => d[i]!) (fun j => d[j]!) N 0 = formT F F N := formT_congr h h
set_option maxHeartbeats 16000000 in
set_option maxRecDepth 20000 in
theorem t6c (n x y : Nat) (w : World) (h64 : n < 64) (h : steerL ((n + 1 : Nat) : Int) (ab x) (ab y) = (List.range (n + 1)).map (steerF (ab x) (ab y))) (he : steerE ((n + 1 : Nat) : Int) (ab x) (ab y) = 0) (hb : (ltF (ab (Go.Fl.abs x)) (ab 8660422083433463808) || eqF (ab (Go.Fl.abs x)) (ab 8660422083433463808)) = true) (hx : PB (some x) 900) (hy : Fnt y) : Calls Try.prog 6 #[.int .i64 ((n + 1 : Nat) : Int), .float .f64 x, .float .f64 y] w (TU w) := by
  obtain ⟨i0, hi, hz0, hz1, hz2⟩ := info_parts info27
  have H8 : Hid (Calls Try.prog 8 #[.int .i64 ((n + 1 : Nat) : Int), .float .f64 x, .float .f64 y] w (StC (n + 1) (steerF (ab x) (ab y)) w)) := t8c (by omega) h he
  obtain ⟨R, I, D, M, hT, hD, hM, hl1, hl2⟩ := hears_ok h64 (F := steerF (ab x) (ab y)) fun k hk => by
    obtain ⟨x', hx', fx, -, -⟩ := id hx
    cases hx'
    obtain ⟨c, s, s', q1, q2, q3, q4⟩ := steer_even hx hy (k := k) (by omega)
    rw [Fnt.ab fx, Fnt.ab hy]
    exact ⟨c, s, q1, q3⟩
  have HT : Hid (formT (steerF (ab x) (ab y)) (steerF (ab x) (ab y)) (n + 1) = (some R, some I)) := hT
  generalize hN : n + 1 = N at *
  have h0 : 1 ≤ N := by omega
  have hN64 : N ≤ 64 := by omega
  have rm : ∀ w, (binOp .mul 22 (.float .f64 4409024035195715584) (.float .f64 (floatOfInt .f64 (N : Int)))).run Try.prog w = .ok (.float .f64 M) w := fun w => run_fl_some .mul 22 w hM
  have rs : ∀ w, (binOp .sub 22 (.float .f64 R) (.float .f64 (floatOfInt .f64 (N : Int)))).run Try.prog w = .ok (.float .f64 D) w := fun w => run_fl_some .sub 22 w hD
  clear h he hT hM hD hx hy hN
  have z0 : (N : Int) ≤ 64 := by omega
  have z1 : (0 : Int) < (N : Int) := by omega
  have z3 : 0 < N := by omega
  go_enter Try.func6, Try.ntmps6
  go_wp2_with (first
    | (go_at_call 8; (with_reducible refine H8.out.mono ?_); rintro e w1 ⟨g1, c1, d1, rfl, hc1, HD1, U1⟩)
    | (go_at_call 14; (with_reducible refine (t14 _ _).mono ?_); rintro e w' ⟨rfl, hw⟩; subst w'))
  go_loopw [9, 10] (fun v vi wr => ∃ k : Nat, k ≤ N ∧ vi = .int .i64 k ∧ Hid (CT w1 wr v g1 c1 k)) (fun _ vi _ => N - (intOf vi).toNat)
  case atStart => exact ⟨0, by omega, rfl, CT.start _ _ _⟩
  case round =>
    obtain ⟨k, hk, rfl, HC⟩ := hrel
    rename World => wr
    by_cases hlt : k < N
    · have y1 : (k : Int) < (N : Int) := by omega
      have y2 : (0 : Int) ≤ (k : Int) := by omega
      have y3 : (k : Int) + 1 ≤ (c1 : Int) := by omega
      have y4 : k + 1 ≤ c1 := by omega
      have o2 := HC.out.row
      have sz : w1.heap.size ≤ wr.heap.size := HC.out.up.size
      go_wp2_with (at_builtin; refine wpList_append_own _ rfl _ _ 43 rfl w1.heap.size 27 i0 (.slice none 0 0) 1 24 Try.underlying43 hi hz0 hz1 hz2 rfl (by decide) _ _ _ rfl (owns_up o2 (Up.alloc _ _)) ⟨wr.heap.size, 0, none⟩ 1 1 [.slice (some ⟨g1, k, none⟩) 1 (c1 - k)] rfl rfl (cell_news _ _ _) (one_cells' _ _ _) (by unfold maxLen; omega) (by omega) (by simp; omega) ?_)
      intro v' w3 hown' hgrow _
      have HG : Hid (CT w1 w3 v' g1 c1 (k + 1)) := HC.out.push hown' hgrow
      clear hown' hgrow o2 HC
      go_wp2
      go_roundw
      case rel => exact ⟨k + 1, by omega, by go_num, HG⟩
      case measure => simp [intOf]; omega
    · obtain rfl : k = N := by omega
      obtain ⟨p, kk, hv, hTR, hRV⟩ := HC.out.table h0 (fun j hj => (HD1.out j hj).1) hc1
      subst hv
      have H18 : Hid (Calls Try.prog 18 #[.slice p k kk, .slice (some ⟨g1, 0, none⟩) k c1] wr (LR 1 (formF (fun i _ => d1[i]!) (fun j => d1[j]!) k) 0 wr)) := t18 hTR hRV h0 hN64 (by omega)
      clear hTR hRV
      go_wp2_with (first
        | (go_at_call 18; (with_reducible refine H18.out.mono ?_); rintro e w4 ⟨g4, rfl, HX4, U4⟩; (have c4 : w4.cell? ⟨g4, 0, none⟩ = some (.complex .f64 R I) := HX4.out.known (by omega) (by rw [form_self (fun j hj => (HD1.out j hj).2)]; exact HT.out)))
        | (go_at_call 14; (with_reducible refine (t14 _ _).mono ?_); rintro e w' ⟨rfl, hw⟩; subst w')
        | (go_at_call 10; (with_reducible refine (t10 _).mono ?_); rintro e w5 ⟨rfl, U5⟩))
      go_ret
      exact ⟨rfl, ((U1.out.trans HC.out.up).trans U4.out).trans U5.out⟩
theorem t6 (n : Int) (x y : Nat) (w : World) : Calls Try.prog 6 #[.int .i64 n, .float .f64 x, .float .f64 y] w (TU w) := by
  rcases steer_cases n (ab x) (ab y) with ⟨h1, h2⟩ | ⟨N, rfl, h1, h2, h3, h4, h5, h6⟩
  · exact t6a n x y w h1 h2
  · cases hb : (ltF (ab (Go.Fl.abs x)) (ab 8660422083433463808) || eqF (ab (Go.Fl.abs x)) (ab 8660422083433463808)) with
    | false => exact t6b N x y w h1 h5 h6 hb
    | true =>
      obtain ⟨n, rfl⟩ : ∃ n, N = n + 1 := ⟨N - 1, by omega⟩
      exact t6c n x y w (by omega) h5 h6 hb (pb_of (fin_fnt h3) hb) (fin_fnt h4)
end Go.Proofs.Ytjnggbpifclpcaa

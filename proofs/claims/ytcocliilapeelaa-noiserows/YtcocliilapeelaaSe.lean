/- The walk of NoiseRows. -/
import Derived.Test.YtcocliilapeelaaSc
import Derived.Test.YtcocliilapeelaaSd
namespace Go.Proofs.Ytcocliilapeelaa
open Go.ChangeShapes Go.WideShapes Go.ChangeAt Go.RowKit Go.Fl Ieee
attribute [local go_sem] run_store_float run_store_complex call38 call37 run_neg fold_eq fold_ne fold_lt fold_gt abs_eq

theorem row_kept' {W W' : World} {b t m n x : Nat} {v : Value} {xs : List Value} (h : W.ownsRow b t m v n xs) (hb : But x W W') (hx : x < b) : W'.ownsRow b t m v n xs := by
  refine World.ownsRow.kept h hb ?_
  rcases hv : v.ownBlock with _ | j
  · exact Or.inl rfl
  · right
    intro e
    have := (h.lt j hv).1
    cases e
    omega
/-- A row that was told. -/
def RT (W : World) (v : Value) (s : Int) (X n : Nat) : Prop := ∃ b d, CRow b W v d ∧ d.map ab2 = rowF s X n
theorem RT.at {W : World} {g n cap : Nat} {s : Int} {X : Nat} (h : RT W (.slice (some ⟨g, 0, none⟩) n cap) s X n) {i : Nat} (hi : i < n) : ∃ u y, W.cell? ⟨g, i, none⟩ = some (.complex .f64 u y) ∧ ab2 (u, y) = pairF (it s (24 * i)) X := by
  obtain ⟨b, d, h1, h2⟩ := h
  have hl : d.length = n := by have := congrArg List.length h2; simpa [rowF] using this
  refine ⟨_, _, h1.cell (i := i) (by omega), ?_⟩
  have e := congrArg (fun l => l[i]?) h2
  simp only [rowF, List.getElem?_map, List.getElem?_eq_getElem (show i < d.length by omega), List.getElem?_range hi, Option.map_some, Option.some.injEq] at e
  rw [getElem!_pos d i (by omega)]
  exact e
/-- Two sources and three rows. -/
structure R3 (w W : World) (x y : Nat) (sx sy : Int) : Prop where
  up : Up w W
  sx : SC W x sx
  sy : SC W y sy
  ne : x ≠ y
  lx : w.heap.size ≤ x
  ly : w.heap.size ≤ y
theorem t16s {b : Nat} {s : Int} {w : World} (h : SC w b s) {z : Int} (n x : Nat) (hz : z = (n : Int)) (hn : n ≤ 16384) : Calls Try.prog 16 #[.pointer (some ⟨b, 0, none⟩), .int .i64 z, .float .f64 x] w (RC w b s x n) := by subst hz; exact t16 h n x hn
/-- A row that was told, apart from the sources. -/
def RA (W : World) (x y : Nat) (v : Value) (s : Int) (X n : Nat) : Prop := ∃ b d, CRow b W v d ∧ d.map ab2 = rowF s X n ∧ x < b ∧ y < b
theorem RA.rt {W : World} {x y : Nat} {v : Value} {s : Int} {X n : Nat} (h : RA W x y v s X n) : RT W v s X n := by
  obtain ⟨b, d, h1, h2, _⟩ := h
  exact ⟨b, d, h1, h2⟩
theorem RA.kept {W W' : World} {x y z : Nat} {v : Value} {s : Int} {X n : Nat} (h : RA W x y v s X n) (hb : But z W W') (hz : z = x ∨ z = y) : RA W' x y v s X n := by
  obtain ⟨b, d, h1, h2, h3, h4⟩ := h
  exact ⟨b, d, row_kept' h1 hb (by rcases hz with rfl | rfl <;> assumption), h2, h3, h4⟩
def RX (w : World) (x y : Nat) (sx sy s : Int) (z : Nat) (W : World) (X n : Nat) (e : Ending) (W' : World) : Prop := ∃ p cap, e = .returned (.slice p n cap) ∧ Hid (0 < n → ∃ g, p = some ⟨g, 0, none⟩) ∧ Hid (R3 w W' x y sx sy) ∧ Hid (RA W' x y (.slice p n cap) s X n) ∧ Hid (But z W W')
theorem rowX {w W : World} {x y : Nat} {sx sy : Int} (h : R3 w W x y sx sy) {z : Int} (n X : Nat) (hz : z = (n : Int)) (hn : n ≤ 16384) : Calls Try.prog 16 #[.pointer (some ⟨x, 0, none⟩), .int .i64 z, .float .f64 X] W (RX w x y (it sx (24 * n)) sy sx x W X n) := by
  refine (t16s h.sx n X hz hn).mono ?_
  rintro e W' ⟨v, d, rfl, r0, h1, hb1, hd⟩
  obtain ⟨p, cap, hv, hp⟩ := len_rowsC r0.out hd.out
  subst hv
  exact ⟨p, cap, rfl, hp, ⟨hb1.out.up h.up h.lx, h1.out, h.sy.but hb1.out (Ne.symm h.ne), h.ne, h.lx, h.ly⟩, ⟨_, d, r0.out, hd.out, h.sx.lt, h.sy.lt⟩, hb1⟩
theorem rowY {w W : World} {x y : Nat} {sx sy : Int} (h : R3 w W x y sx sy) {z : Int} (n X : Nat) (hz : z = (n : Int)) (hn : n ≤ 16384) : Calls Try.prog 16 #[.pointer (some ⟨y, 0, none⟩), .int .i64 z, .float .f64 X] W (RX w x y sx (it sy (24 * n)) sy y W X n) := by
  refine (t16s h.sy n X hz hn).mono ?_
  rintro e W' ⟨v, d, rfl, r0, h1, hb1, hd⟩
  obtain ⟨p, cap, hv, hp⟩ := len_rowsC r0.out hd.out
  subst hv
  exact ⟨p, cap, rfl, hp, ⟨hb1.out.up h.up h.ly, h.sx.but hb1.out h.ne, h1.out, h.ne, h.lx, h.ly⟩, ⟨_, d, r0.out, hd.out, h.sx.lt, h.sy.lt⟩, hb1⟩
theorem st_eq (S : Int) (N M : Nat) : it (it S (24 * N)) (24 * M) = it S (24 * (N + M)) := by rw [it_add, Nat.mul_add]
theorem R3.grow {w W W' : World} {x y : Nat} {sx sy : Int} (h : R3 w W x y sx sy) (u : Up W W') : R3 w W' x y sx sy := ⟨h.up.trans u, h.sx.up u, h.sy.up u, h.ne, h.lx, h.ly⟩
theorem pairX {w W : World} {x y : Nat} {sx sy : Int} (h : R3 w W x y sx sy) (X : Nat) : Calls Try.prog 22 #[.pointer (some ⟨x, 0, none⟩), .float .f64 X] W fun e W' => ∃ u v, e = .returned (.complex .f64 u v) ∧ Hid (ab2 (u, v) = pairF sx X) ∧ Hid (R3 w W' x y (it sx 24) sy) :=
  (t22 h.sx X).mono fun _ _ ⟨u, v, e, hr, s, b⟩ => ⟨u, v, e, hr, ⟨b.out.up h.up h.lx, s.out, h.sy.but b.out (Ne.symm h.ne), h.ne, h.lx, h.ly⟩⟩
theorem pairY {w W : World} {x y : Nat} {sx sy : Int} (h : R3 w W x y sx sy) (X : Nat) : Calls Try.prog 22 #[.pointer (some ⟨y, 0, none⟩), .float .f64 X] W fun e W' => ∃ u v, e = .returned (.complex .f64 u v) ∧ Hid (ab2 (u, v) = pairF sy X) ∧ Hid (R3 w W' x y sx (it sy 24)) :=
  (t22 h.sy X).mono fun _ _ ⟨u, v, e, hr, s, b⟩ => ⟨u, v, e, hr, ⟨b.out.up h.up h.ly, h.sx.but b.out h.ne, s.out, h.ne, h.lx, h.ly⟩⟩
/-- One source of one's own. -/
structure R1 (w W : World) (x : Nat) (s : Int) : Prop where
  up : Up w W
  sx : SC W x s
  lx : w.heap.size ≤ x
theorem R1.step {w W W' : World} {x : Nat} {s s' : Int} (h : R1 w W x s) (hs : SC W' x s') (hb : But x W W') : R1 w W' x s' := ⟨hb.up h.up h.lx, hs, h.lx⟩
theorem R1.grow {w W W' : World} {x : Nat} {s : Int} (h : R1 w W x s) (hu : Up W W') : R1 w W' x s := ⟨h.up.trans hu, h.sx.up hu, h.lx⟩
theorem nor2 {a b : Bool} (h : ¬ (a = true ∨ b = true)) : a = false ∧ b = false := by
  revert h; cases a <;> cases b <;> decide
/-- A Pair of a width times a power of two: its parts are the Pair's times that power. -/
theorem pair_scaled {S : Int} {X f wf p1 p2 q1 q2 : Nat} {c : Int} (hW : ∃ s m e, Sz X (-333) 333 s m e) (hf : Fnt f ∧ val f = pw c) (h1 : -100 ≤ c) (h2 : c ≤ 100) (ew : ab wf = bin .mul (ab X) (ab f)) (hp : ab2 (p1, p2) = pairF S X) (hq : ab2 (q1, q2) = pairF S wf) :
    (∀ r, ab r = bin .mul (ab p1) (ab f) → eqF (ab q1) (ab r) = true) ∧ (∀ r, ab r = bin .mul (ab p2) (ab f) → eqF (ab q2) (ab r) = true) := by
  obtain ⟨s, m, e, hS⟩ := hW
  obtain ⟨e1, e2⟩ := Prod.mk.inj (show (ab p1, ab p2) = pairF S X from hp)
  obtain ⟨e3, e4⟩ := Prod.mk.inj (show (ab q1, ab q2) = pairF S wf from hq)
  exact ⟨fun r hr => part_scaled hS hf.1 hf.2 h1 h2 ew e1 e3 hr, fun r hr => part_scaled hS hf.1 hf.2 h1 h2 ew e2 e4 hr⟩
set_option maxRecDepth 100000 in
set_option maxHeartbeats 8000000 in
theorem t5i (S : Int) (N M : Nat) (X : Nat) (c : Int) (w : World) (hN : N ≤ 2000) (hM : M ≤ 2000) (hcase : Fnt X ∨ eqF (ab X) (ab X) = false ∨ gtF ((ab X).map abs) (ab 9218868437227405311) = true) : Calls Try.prog 5 #[.int .u64 S, .int .i64 N, .int .i64 M, .float .f64 X, .int .i64 c] w (TU w) := by
  have HC : Hid (Fnt X ∨ eqF (ab X) (ab X) = false ∨ gtF ((ab X).map abs) (ab 9218868437227405311) = true) := hcase
  have hn0 : ¬ ((N : Int) < 0) := by omega
  have hm0 : ¬ ((M : Int) < 0) := by omega
  have hn1 : (N : Int) ≤ 2000 := by omega
  have hm1 : (M : Int) ≤ 2000 := by omega
  clear hcase
  go_enter Try.func5, Try.ntmps5
  go_wp2_with (first
    | (go_at_call 9; (with_reducible refine (t9 w).mono ?_); rintro e w1 ⟨rfl, u1⟩)
    | (go_at_call 7; (with_reducible refine (newQ S u1.out).mono ?_); rintro e w2 ⟨x, rfl, s2, v2, l2, k2⟩; have u2 : Hid (Up w w2) := u1.out.trans v2.out; clear u1 v2)
    | (go_at_call 7; (with_reducible refine (newQ S u2.out).mono ?_); rintro e w3 ⟨y, rfl, s3, v3, l3, k3⟩; have H3 : Hid (R3 w w3 x y S S) := ⟨u2.out.trans v3.out, s2.out.up v3.out, s3.out, Nat.ne_of_lt (Nat.lt_of_lt_of_le s2.out.lt k3.out), l2.out, l3.out⟩; clear u2 v3 s2 s3 k2 k3)
    | (go_at_call 16; (with_reducible refine (rowX H3.out N X rfl (by omega)).mono ?_); rintro e w4 ⟨pa, ca, rfl, ga, H4, Ra, b4⟩)
    | (go_at_call 16; (with_reducible refine (rowX H4.out M X rfl (by omega)).mono ?_); rintro e w5 ⟨pb, cb, rfl, gb, H5, Rb, b5⟩; have Ra5 : Hid (RA w5 x y (.slice pa N ca) S X N) := Ra.out.kept b5.out (Or.inl rfl); clear H3 H4 Ra)
    | (go_at_call 16; (with_reducible refine (rowY H5.out (N + M) X (by omega) (by omega)).mono ?_); rintro e w6 ⟨pc, cc, rfl, gc, H6, Rc, b6⟩; have Ra6 : Hid (RT w6 (.slice pa N ca) S X N) := (Ra5.out.kept b6.out (Or.inr rfl)).rt; have Rb6 : Hid (RT w6 (.slice pb M cb) (it S (24 * N)) X M) := (Rb.out.kept b6.out (Or.inr rfl)).rt; have H7 : Hid (R3 w w6 x y (it S (24 * (N + M))) (it S (24 * (N + M)))) := (by have h := H6.out; rw [st_eq] at h; exact h); have Rc6 : Hid (RT w6 (.slice pc (N + M) cc) S X (N + M)) := Rc.out.rt; clear H5 H6 Rb Ra5 Rc b4 b5 b6)
    | (go_at_call 11; (with_reducible refine (t11 H7.out.sx).mono ?_); rintro e w' ⟨rfl, hw⟩; subst w')
    | (go_at_call 11; (with_reducible refine (t11 H7.out.sy).mono ?_); rintro e w' ⟨rfl, hw⟩; subst w'))
  go_loopw [18, 19, 115] (fun _ _ i wr => ∃ k : Nat, k ≤ N + M ∧ i = .int .i64 k ∧ wr = w6) (fun _ _ i _ => N + M - (intOf i).toNat)
  case atStart => exact ⟨0, by omega, rfl, rfl⟩
  case round =>
    obtain ⟨k, hk, rfl, hwr⟩ := hrel
    subst wr
    by_cases hlt : k < N + M
    · have hkz : (k : Int) < (N : Int) + (M : Int) := by omega
      obtain ⟨gc', hgc⟩ := gc.out (by omega)
      subst hgc
      obtain ⟨u1, y1, c1, q1⟩ := Rc6.out.at hlt
      by_cases hkn : k < N
      · have hkn' : (k : Int) < (N : Int) := by omega
        obtain ⟨ga', hga⟩ := ga.out (by omega)
        subst hga
        obtain ⟨u2, y2, c2, q2⟩ := Ra6.out.at hkn
        rcases HC.out with hX | hX | hX
        · obtain ⟨E1, E2⟩ := pair_num hX q2 q1
          clear hX q1 q2
          go_wp2_with (go_at_call 17; (with_reducible refine (t17 X _).mono ?_); rintro e w' ⟨rfl, hw⟩; subst w')
          all_goals
            go_roundw
            case rel => exact ⟨k + 1, by omega, by go_num, by first | rfl | trivial⟩
            case measure => simp [intOf]; omega
        · clear q1 q2
          go_wp2_with (go_at_call 17; (with_reducible refine (t17 X _).mono ?_); rintro e w' ⟨rfl, hw⟩; subst w')
          all_goals
            go_roundw
            case rel => exact ⟨k + 1, by omega, by go_num, by first | rfl | trivial⟩
            case measure => simp [intOf]; omega
        · clear q1 q2
          go_wp2_with (go_at_call 17; (with_reducible refine (t17 X _).mono ?_); rintro e w' ⟨rfl, hw⟩; subst w')
          all_goals
            go_roundw
            case rel => exact ⟨k + 1, by omega, by go_num, by first | rfl | trivial⟩
            case measure => simp [intOf]; omega
      · obtain ⟨j, hj⟩ := Int.eq_ofNat_of_zero_le (show 0 ≤ (k : Int) - (N : Int) by omega)
        have hkn' : ¬ (k : Int) < (N : Int) := by omega
        have hj0 : (0 : Int) ≤ (j : Int) := by omega
        have hjM : (j : Int) < (M : Int) := by omega
        obtain ⟨gb', hgb⟩ := gb.out (by omega)
        subst hgb
        obtain ⟨u2, y2, c2, q2⟩ := Rb6.out.at (i := j) (by omega)
        rw [it_add, show 24 * N + 24 * j = 24 * k by omega] at q2
        rcases HC.out with hX | hX | hX
        · obtain ⟨E1, E2⟩ := pair_num hX q2 q1
          clear hX q1 q2
          go_wp2_with (go_at_call 17; (with_reducible refine (t17 X _).mono ?_); rintro e w' ⟨rfl, hw⟩; subst w')
          all_goals
            go_roundw
            case rel => exact ⟨k + 1, by omega, by go_num, by first | rfl | trivial⟩
            case measure => simp [intOf]; omega
        · clear q1 q2
          go_wp2_with (go_at_call 17; (with_reducible refine (t17 X _).mono ?_); rintro e w' ⟨rfl, hw⟩; subst w')
          all_goals
            go_roundw
            case rel => exact ⟨k + 1, by omega, by go_num, by first | rfl | trivial⟩
            case measure => simp [intOf]; omega
        · clear q1 q2
          go_wp2_with (go_at_call 17; (with_reducible refine (t17 X _).mono ?_); rintro e w' ⟨rfl, hw⟩; subst w')
          all_goals
            go_roundw
            case rel => exact ⟨k + 1, by omega, by go_num, by first | rfl | trivial⟩
            case measure => simp [intOf]; omega
    · obtain rfl : k = N + M := by omega
      have H1 : Hid (R1 w w6 x (it S (24 * (N + M)))) := ⟨H7.out.up, H7.out.sx, H7.out.lx⟩
      clear H7 Ra6 Rb6 Rc6 ga gb gc
      go_wp2
      go_loopw [20, 21, 22, 148] (fun _ _ _ i wr => ∃ j : Nat, j ≤ 20 ∧ i = .int .i64 j ∧ ∃ s, Hid (R1 w wr x s)) (fun _ _ _ i _ => 20 - (intOf i).toNat)
      case atStart => exact ⟨0, by omega, rfl, _, H1⟩
      case round =>
        clear H1
        obtain ⟨j, hj, rfl, s, HT⟩ := hrel
        by_cases hlt2 : j < 20
        · have hjz : (j : Int) < 20 := by omega
          go_wp2_with (first
            | (go_at_call 18; (with_reducible refine (t18 HT.out.sx).mono ?_); rintro e w7 ⟨f, rfl, hf, s7, b7⟩; have T7 : Hid (R1 w w7 x (adv s 1)) := HT.out.step s7.out b7.out; clear HT s7 b7; have A := flt_ge hf.out; have B := flt_lt hf.out)
            | ((with_reducible refine upon_fl (by simp) ?_); intro g n7 hg; have T8 : Hid (R1 w (w7.drewN n7) x (adv s 1)) := T7.out.grow (Up.drewN _ _))
            | (go_at_call 15; (with_reducible refine (t15 T8.out.sx).mono ?_); rintro e w9 ⟨h, rfl, hh, s9, b9⟩; have T9 : Hid (R1 w w9 x (it (adv s 1) 12)) := T8.out.step s9.out b9.out; clear s9 b9; have D1 := (hb_of hh.out).ge; have D2 := (hb_of hh.out).le)
            | (go_at_call 19; (with_reducible refine (t19 g w9).mono ?_); rintro e w' ⟨r, n9, rfl, rfl, hr⟩; have E := (fb_of hf.out hg.out hr.out).eq))
          · exfalso
            exact leaf3 A D1 D2 (by assumption)
          · refine ⟨?_, ?_⟩
            · (repeat apply Exists.intro)
              refine ⟨?_, rfl⟩
              exact ⟨j + 1, by omega, by go_num, _, T9.out.grow (Up.drewN _ _)⟩
            · simp [intOf]; omega
        · obtain rfl : j = 20 := by omega
          have U6 : Hid (Up w wr) := HT.out.up
          clear HT
          by_cases L : gtF (ab (abs X)) (ab 3110860544497550640) = true ∨ eqF (ab (abs X)) (ab 3110860544497550640) = true
          · by_cases G : ltF (ab (abs X)) (ab 6103021453049119613) = true ∨ eqF (ab (abs X)) (ab 6103021453049119613) = true
            · by_cases C1 : -100 ≤ c
              · by_cases C2 : c ≤ 100
                · have WS : Hid (∃ s m e, Sz X (-333) 333 s m e) := (width_size L G).2
                  go_wp2_with (first
                    | (go_at_call 20; (with_reducible refine (t20 X _).mono ?_); rintro e w' ⟨rfl, hw⟩; subst w')
                    | (go_at_call 7; (with_reducible refine (newQ S U6.out).mono ?_); rintro e w7 ⟨x2, rfl, s7, v7, l7, k7⟩; have U7 : Hid (Up w w7) := U6.out.trans v7.out; clear U6 v7)
                    | (go_at_call 7; (with_reducible refine (newQ S U7.out).mono ?_); rintro e w8 ⟨y2, rfl, s8, v8, l8, k8⟩; have H8 : Hid (R3 w w8 x2 y2 S S) := ⟨U7.out.trans v8.out, s7.out.up v8.out, s8.out, Nat.ne_of_lt (Nat.lt_of_lt_of_le s7.out.lt k8.out), l7.out, l8.out⟩; clear U7 v8 s7 s8 k7 k8)
                    | (go_at_call 21; (with_reducible refine (t21 c C1 C2 w8).mono ?_); rintro e w9 ⟨f, n9, rfl, h9, hf⟩; have H9 : Hid (R3 w w9 x2 y2 S S) := (by rw [h9]; exact H8.out.grow (Up.drewN _ _)); clear H8 h9)
                    | (go_at_call 22; (with_reducible refine (pairX H9.out X).mono ?_); rintro e w10 ⟨p1, p2, rfl, hp, H10⟩; clear H9)
                    | ((with_reducible refine upon_fl (w := w10) (by simp) ?_); intro wf n10 hwf; have H11 : Hid (R3 w (w10.drewN n10) x2 y2 (it S 24) S) := H10.out.grow (Up.drewN _ _))
                    | (go_at_call 22; (with_reducible refine (pairY H11.out wf).mono ?_); rintro e w12 ⟨q1, q2, rfl, hq, H12⟩; have PE := pair_scaled WS.out (ldexp_val C1 C2 hf.out) C1 C2 hwf.out hp.out hq.out)
                    | ((with_reducible refine upon_fl (w := w12) (by simp) ?_); intro r1 n12 hr1; have P1 := PE.1 r1 hr1.out)
                    | ((with_reducible refine upon_fl (by simp) ?_); intro r2 n13 hr2; have P2 := PE.2 r2 hr2.out))
                  all_goals first
                    | (go_ret; exact ⟨rfl, U6⟩)
                    | (go_ret; exact ⟨rfl, H12.out.up.trans (Up.drewN _ _)⟩)
                · have C3 : 100 < c := by omega
                  clear C2
                  go_wp2_with (go_at_call 20; (with_reducible refine (t20 X _).mono ?_); rintro e w' ⟨rfl, hw⟩; subst w')
                  go_ret
                  exact ⟨rfl, U6⟩
              · have C3 : c < -100 := by omega
                clear C1
                go_wp2_with (go_at_call 20; (with_reducible refine (t20 X _).mono ?_); rintro e w' ⟨rfl, hw⟩; subst w')
                go_ret
                exact ⟨rfl, U6⟩
            · obtain ⟨G1, G2⟩ : ltF (ab (abs X)) (ab 6103021453049119613) = false ∧ eqF (ab (abs X)) (ab 6103021453049119613) = false := nor2 G
              clear G
              go_wp2_with (go_at_call 20; (with_reducible refine (t20 X _).mono ?_); rintro e w' ⟨rfl, hw⟩; subst w')
              go_ret
              exact ⟨rfl, U6⟩
          · obtain ⟨L1, L2⟩ : gtF (ab (abs X)) (ab 3110860544497550640) = false ∧ eqF (ab (abs X)) (ab 3110860544497550640) = false := nor2 L
            clear L
            go_wp2_with (go_at_call 20; (with_reducible refine (t20 X _).mono ?_); rintro e w' ⟨rfl, hw⟩; subst w')
            go_ret
            exact ⟨rfl, U6⟩
theorem width_case (X : Nat) : Fnt X ∨ eqF (ab X) (ab X) = false ∨ gtF ((ab X).map abs) (ab 9218868437227405311) = true := by
  cases hN : isN X
  · by_cases hF : Fnt X
    · exact Or.inl hF
    · right; right
      rw [isN_mod] at hN
      have hle : X % 2 ^ 63 ≤ 0x7ff0000000000000 := by simpa using hN
      unfold Fnt at hF
      have e : abs X = 0x7ff0000000000000 := by unfold abs; omega
      rw [← ab_abs, e]
      decide +kernel
  · right; left
    rw [eqF_self, hN]; rfl
theorem t5 (S n m : Int) (X : Nat) (c : Int) (w : World) : Calls Try.prog 5 #[.int .u64 S, .int .i64 n, .int .i64 m, .float .f64 X, .int .i64 c] w (TU w) := by
  by_cases h : 0 ≤ n ∧ n ≤ 2000 ∧ 0 ≤ m ∧ m ≤ 2000
  · obtain ⟨h1, h2, h3, h4⟩ := h
    obtain ⟨N, rfl⟩ := Int.eq_ofNat_of_zero_le h1
    obtain ⟨M, rfl⟩ := Int.eq_ofNat_of_zero_le h3
    exact t5i S N M X c w (by omega) (by omega) (width_case X)
  · refine t5x S n m X c w ?_
    unfold Out
    omega
end Go.Proofs.Ytcocliilapeelaa

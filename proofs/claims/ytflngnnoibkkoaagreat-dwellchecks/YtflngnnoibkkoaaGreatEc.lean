/- Dwell: Check, and the document's. -/
import Derived.Test.YtflngnnoibkkoaaGreatEb
import Derived.Test.YtflngnnoibkkoaaGreatJLd
namespace Go.Proofs.YtflngnnoibkkoaaGreat
open Go.ChangeShapes Go.WideShapes Go.ChangeAt Go.RowKit Go.Fl Ieee
set_option maxRecDepth 200000
set_option maxHeartbeats 8000000
attribute [local go_sem] run_store_float call34 call33 run_neg fold_eq fold_ne fold_lt fold_gt abs_eq

theorem t6 (c v r : Nat) (E R cd win can way gu tr nth : Int) (ti no : Nat) (w : World) : Calls Tryz.prog 6 #[.agg #[.float .f64 c, .float .f64 v, .float .f64 r, .int .i64 E, .int .i64 R, .int .i64 cd, .int .i8 win, .int .i64 can, .int .i8 way, .int .i64 gu, .int .i64 tr, .int .i64 nth, .float .f64 ti, .float .f64 no]] w (IU w (stE c v r E R cd can way gu tr nth ti no)) := by
  obtain ⟨z, hz⟩ : ∃ z, stE c v r E R cd can way gu tr nth ti no = z := ⟨_, rfl⟩
  have C20 : Hid (∀ W, Calls Tryz.prog 20 #[.agg #[.float .f64 c, .float .f64 v, .float .f64 r, .int .i64 E, .int .i64 R, .int .i64 cd, .int .i8 win, .int .i64 can, .int .i8 way, .int .i64 gu, .int .i64 tr, .int .i64 nth, .float .f64 ti, .float .f64 no]] W (SnR W z cd)) := fun W => hz ▸ t20 c v r E R cd win can way gu tr nth ti no W
  rw [hz]
  clear hz
  have C20' : Hid (∀ W, Calls Tryz.prog 20 #[.agg #[.float .f64 c, .float .f64 v, .float .f64 r, .int .i64 E, .int .i64 R, .int .i64 cd, .int .i8 win, .int .i64 can, .int .i8 way, .int .i64 gu, .int .i64 tr, .int .i64 nth, .float .f64 ti, .float .f64 no]] W fun e w' => ∃ u, e = .returned (.tuple #[u, .int .i64 z]) ∧ Hid (Up W w')) := fun W => (C20.out W).mono fun e w' h => by
    rcases h with ⟨_, rfl, hu⟩ | ⟨rfl, p, cp, d, rfl, _, hu, _⟩
    · exact ⟨_, rfl, hu⟩
    · exact ⟨_, rfl, hu⟩
  clear C20
  go_enter Tryz.func6, Tryz.ntmps6
  go_wp2_with (go_at_call 20; (with_reducible refine (C20'.out _).mono ?_); rintro e w1 ⟨u, rfl, HU⟩)
  go_ret
  exact ⟨rfl, (Up.alloc _ _).trans HU.out⟩
/-- What the document's Code leaves. -/
def CdQ (w : World) (cd : Int) (e : Ending) (w' : World) : Prop := ∃ p cp, e = .returned (.tuple #[.slice p (codeL cd).length cp, .int .i64 (codeE cd)]) ∧ Hid (Up w w')
theorem t22o (cd : Int) (w : World) : Calls Tryz.prog 22 #[.int .i64 cd] w (CdQ w cd) := (Rf.t22 cd w).mono fun e w' ⟨v, d, he, hv, hu, hd⟩ => by
  have hl : d.length = (codeL cd).length := by rw [← hd.out, List.length_map]
  obtain ⟨p, cp, hp, -⟩ := own_form hv.out
  rw [hl] at hp
  subst hp
  exact ⟨p, cp, he, hu⟩
set_option maxHeartbeats 16000000 in
theorem t7 (c v r : Nat) (E R cd win can way gu tr nth : Int) (ti no : Nat) (w : World) : Calls Tryz.prog 7 #[.agg #[.float .f64 c, .float .f64 v, .float .f64 r, .int .i64 E, .int .i64 R, .int .i64 cd, .int .i8 win, .int .i64 can, .int .i8 way, .int .i64 gu, .int .i64 tr, .int .i64 nth, .float .f64 ti, .float .f64 no]] w (IU w (stE c v r E R cd can way gu tr nth ti no)) := by
  obtain ⟨z, hz⟩ : ∃ z, stE c v r E R cd can way gu tr nth ti no = z := ⟨_, rfl⟩
  rw [hz]
  unfold stE at hz
  obtain ⟨z0, hz0⟩ : ∃ z0, checkF (ab c) (ab v) (ab r) E R = z0 := ⟨_, rfl⟩
  obtain ⟨ce, hce⟩ : ∃ ce, codeE cd = ce := ⟨_, rfl⟩
  obtain ⟨nL, hnL⟩ : ∃ nL, (codeL cd).length = nL := ⟨_, rfl⟩
  have hfew := code_few cd
  have C21 : Hid (∀ W, Calls Tryz.prog 21 #[.agg #[.float .f64 c, .float .f64 v, .float .f64 r, .int .i64 E, .int .i64 R]] W (IU W z0)) := fun W => (Pl.Gt.t21 c v r E R W).mono fun e w' h => by
    have he : Pl.Gt.checkF (ab c) (ab v) (ab r) E R = z0 := hz0
    obtain ⟨h1, h2⟩ := h
    rw [he] at h1
    exact ⟨h1, h2⟩
  have C22 : Hid (∀ W, Calls Tryz.prog 22 #[.int .i64 cd] W (fun e w' => ∃ p cp, e = .returned (.tuple #[.slice p nL cp, .int .i64 ce]) ∧ Hid (Up W w'))) := fun W => by
    have := t22o cd W
    unfold CdQ at this
    rwa [hce, hnL] at this
  have HS0 : Hid (SB (w.alloc (.cells #[.float .f64 c, .float .f64 v, .float .f64 r, .int .i64 E, .int .i64 R, .int .i64 cd, .int .i8 win, .int .i64 can, .int .i8 way, .int .i64 gu, .int .i64 tr, .int .i64 nth, .float .f64 ti, .float .f64 no] 27)) w.heap.size c v r E R cd win can way gu tr nth ti no) := SB.new w c v r E R cd win can way gu tr nth ti no
  have HS00 := HS0.out
  obtain ⟨s0, s1, s2, s3, s4, s5, s6, s7, s8, s9, s10, s11, s12, s13⟩ := HS00
  rw [hz0, hce, hnL] at hz
  rw [hnL] at hfew
  clear hce hnL
  by_cases h0 : z0 = 0
  · subst h0
    obtain ⟨e1, e2, r1, r2, e5⟩ := check_bounds hz0
    clear hz0
    by_cases h1 : ce = 0
    · subst h1
      obtain ⟨f1, hf1⟩ : ∃ f1, fin (ab ti) = f1 := ⟨_, rfl⟩
      obtain ⟨f2, hf2⟩ : ∃ f2, fin (ab no) = f2 := ⟨_, rfl⟩
      obtain ⟨g1, hg1⟩ : ∃ g1, ltF (ab ti) (ab 0) = g1 := ⟨_, rfl⟩
      obtain ⟨g2, hg2⟩ : ∃ g2, ltF (ab no) (ab 0) = g2 := ⟨_, rfl⟩
      have C23 : Hid (∀ W, Calls Tryz.prog 23 #[.float .f64 ti] W fun e w' => e = .returned (.bool f1) ∧ w' = W) := fun W => hf1 ▸ Pl.Gt.t23 ti W
      have C23' : Hid (∀ W, Calls Tryz.prog 23 #[.float .f64 no] W fun e w' => e = .returned (.bool f2) ∧ w' = W) := fun W => hf2 ▸ Pl.Gt.t23 no W
      rw [hf1, hf2, hg1, hg2] at hz
      clear hf1 hf2
      by_cases q1 : E < (nL : Int)
      · have hz1 : z = 2 := by rw [← hz]; simp [q1]
        subst hz1
        clear hz
        go_enter Tryz.func7, Tryz.ntmps7
        go_wp2_with (first
          | (go_at_call 21; (with_reducible refine (C21.out _).mono ?_); rintro e w1 ⟨rfl, HU1⟩; (have HS1 := SB.up HS0.out HU1.out); (have HS1' : Hid (SB w1 w.heap.size c v r E R cd win can way gu tr nth ti no) := HS1); clear s0 s1 s2 s3 s4 s5 s6 s7 s8 s9 s10 s11 s12 s13; (obtain ⟨s0, s1, s2, s3, s4, s5, s6, s7, s8, s9, s10, s11, s12, s13⟩ := HS1))
          | (go_at_call 22; (with_reducible refine (C22.out _).mono ?_); rintro e w2 ⟨p, cp, rfl, HU2⟩; (have HS2 := SB.up HS1'.out HU2.out); clear s0 s1 s2 s3 s4 s5 s6 s7 s8 s9 s10 s11 s12 s13; (obtain ⟨s0, s1, s2, s3, s4, s5, s6, s7, s8, s9, s10, s11, s12, s13⟩ := HS2); (have hlt := World.block_lt_of_cell? w2 _ s0); simp only at hlt)
          | (go_at_call 23; (with_reducible refine (C23.out _).mono ?_); rintro e w' ⟨rfl, hw⟩; subst w')
          | (go_at_call 23; (with_reducible refine (C23'.out _).mono ?_); rintro e w' ⟨rfl, hw⟩; subst w'))
        go_ret
        first
        | exact ⟨rfl, (((Up.alloc _ _).trans HU1.out).trans HU2.out).trans (Up.alloc _ _)⟩
        | exact ⟨rfl, ((Up.alloc _ _).trans HU1.out).trans HU2.out⟩
      have d1 : decide (E < (nL : Int)) = false := decide_eq_false q1
      rw [d1] at hz
      obtain ⟨b1, hb1⟩ : ∃ b1, canB R can = b1 := ⟨_, rfl⟩
      rw [hb1] at hz
      cases b1
      · have hz1 : z = 2 := by rw [← hz]; rfl
        subst hz1
        clear hz
        have hq : can < 0 ∨ (¬ can < 0 ∧ 8 < can) ∨ (¬ can < 0 ∧ ¬ 8 < can ∧ R ≤ can) := by
          unfold canB at hb1
          simp only [Bool.and_eq_false_iff, decide_eq_false_iff_not] at hb1
          omega
        clear hb1
        rcases hq with k0 | ⟨k0, k1⟩ | ⟨k0, k1, k2⟩
        · go_enter Tryz.func7, Tryz.ntmps7
          go_wp2_with (first
            | (go_at_call 21; (with_reducible refine (C21.out _).mono ?_); rintro e w1 ⟨rfl, HU1⟩; (have HS1 := SB.up HS0.out HU1.out); (have HS1' : Hid (SB w1 w.heap.size c v r E R cd win can way gu tr nth ti no) := HS1); clear s0 s1 s2 s3 s4 s5 s6 s7 s8 s9 s10 s11 s12 s13; (obtain ⟨s0, s1, s2, s3, s4, s5, s6, s7, s8, s9, s10, s11, s12, s13⟩ := HS1))
            | (go_at_call 22; (with_reducible refine (C22.out _).mono ?_); rintro e w2 ⟨p, cp, rfl, HU2⟩; (have HS2 := SB.up HS1'.out HU2.out); clear s0 s1 s2 s3 s4 s5 s6 s7 s8 s9 s10 s11 s12 s13; (obtain ⟨s0, s1, s2, s3, s4, s5, s6, s7, s8, s9, s10, s11, s12, s13⟩ := HS2); (have hlt := World.block_lt_of_cell? w2 _ s0); simp only at hlt)
            | (go_at_call 23; (with_reducible refine (C23.out _).mono ?_); rintro e w' ⟨rfl, hw⟩; subst w')
            | (go_at_call 23; (with_reducible refine (C23'.out _).mono ?_); rintro e w' ⟨rfl, hw⟩; subst w'))
          go_ret
          first
          | exact ⟨rfl, (((Up.alloc _ _).trans HU1.out).trans HU2.out).trans (Up.alloc _ _)⟩
          | exact ⟨rfl, ((Up.alloc _ _).trans HU1.out).trans HU2.out⟩
        · go_enter Tryz.func7, Tryz.ntmps7
          go_wp2_with (first
            | (go_at_call 21; (with_reducible refine (C21.out _).mono ?_); rintro e w1 ⟨rfl, HU1⟩; (have HS1 := SB.up HS0.out HU1.out); (have HS1' : Hid (SB w1 w.heap.size c v r E R cd win can way gu tr nth ti no) := HS1); clear s0 s1 s2 s3 s4 s5 s6 s7 s8 s9 s10 s11 s12 s13; (obtain ⟨s0, s1, s2, s3, s4, s5, s6, s7, s8, s9, s10, s11, s12, s13⟩ := HS1))
            | (go_at_call 22; (with_reducible refine (C22.out _).mono ?_); rintro e w2 ⟨p, cp, rfl, HU2⟩; (have HS2 := SB.up HS1'.out HU2.out); clear s0 s1 s2 s3 s4 s5 s6 s7 s8 s9 s10 s11 s12 s13; (obtain ⟨s0, s1, s2, s3, s4, s5, s6, s7, s8, s9, s10, s11, s12, s13⟩ := HS2); (have hlt := World.block_lt_of_cell? w2 _ s0); simp only at hlt)
            | (go_at_call 23; (with_reducible refine (C23.out _).mono ?_); rintro e w' ⟨rfl, hw⟩; subst w')
            | (go_at_call 23; (with_reducible refine (C23'.out _).mono ?_); rintro e w' ⟨rfl, hw⟩; subst w'))
          go_ret
          first
          | exact ⟨rfl, (((Up.alloc _ _).trans HU1.out).trans HU2.out).trans (Up.alloc _ _)⟩
          | exact ⟨rfl, ((Up.alloc _ _).trans HU1.out).trans HU2.out⟩
        · go_enter Tryz.func7, Tryz.ntmps7
          go_wp2_with (first
            | (go_at_call 21; (with_reducible refine (C21.out _).mono ?_); rintro e w1 ⟨rfl, HU1⟩; (have HS1 := SB.up HS0.out HU1.out); (have HS1' : Hid (SB w1 w.heap.size c v r E R cd win can way gu tr nth ti no) := HS1); clear s0 s1 s2 s3 s4 s5 s6 s7 s8 s9 s10 s11 s12 s13; (obtain ⟨s0, s1, s2, s3, s4, s5, s6, s7, s8, s9, s10, s11, s12, s13⟩ := HS1))
            | (go_at_call 22; (with_reducible refine (C22.out _).mono ?_); rintro e w2 ⟨p, cp, rfl, HU2⟩; (have HS2 := SB.up HS1'.out HU2.out); clear s0 s1 s2 s3 s4 s5 s6 s7 s8 s9 s10 s11 s12 s13; (obtain ⟨s0, s1, s2, s3, s4, s5, s6, s7, s8, s9, s10, s11, s12, s13⟩ := HS2); (have hlt := World.block_lt_of_cell? w2 _ s0); simp only at hlt)
            | (go_at_call 23; (with_reducible refine (C23.out _).mono ?_); rintro e w' ⟨rfl, hw⟩; subst w')
            | (go_at_call 23; (with_reducible refine (C23'.out _).mono ?_); rintro e w' ⟨rfl, hw⟩; subst w'))
          go_ret
          first
          | exact ⟨rfl, (((Up.alloc _ _).trans HU1.out).trans HU2.out).trans (Up.alloc _ _)⟩
          | exact ⟨rfl, ((Up.alloc _ _).trans HU1.out).trans HU2.out⟩
      have hc3 : ¬ can < 0 ∧ ¬ 8 < can ∧ ¬ R ≤ can := by
        unfold canB at hb1
        simp only [Bool.and_eq_true, decide_eq_true_eq] at hb1
        omega
      obtain ⟨k0, k1, k2⟩ := hc3
      clear hb1
      obtain ⟨b2, hb2⟩ : ∃ b2, levB way gu tr nth = b2 := ⟨_, rfl⟩
      rw [hb2] at hz
      cases b2
      · have hz1 : z = 2 := by rw [← hz]; rfl
        subst hz1
        clear hz
        have hq : gu < 0 ∨ (¬ gu < 0 ∧ 16384 < gu) ∨ (¬ gu < 0 ∧ ¬ 16384 < gu ∧ tr < 1) ∨ (¬ gu < 0 ∧ ¬ 16384 < gu ∧ ¬ tr < 1 ∧ 16384 < tr) ∨ (¬ gu < 0 ∧ ¬ 16384 < gu ∧ ¬ tr < 1 ∧ ¬ 16384 < tr ∧ nth < 0) ∨ (¬ gu < 0 ∧ ¬ 16384 < gu ∧ ¬ tr < 1 ∧ ¬ 16384 < tr ∧ ¬ nth < 0 ∧ 32768 < nth) ∨ (¬ gu < 0 ∧ ¬ 16384 < gu ∧ ¬ tr < 1 ∧ ¬ 16384 < tr ∧ ¬ nth < 0 ∧ ¬ 32768 < nth ∧ way = 3 ∧ 2 * tr - 1 < nth) := by
          unfold levB at hb2
          simp only [Bool.and_eq_false_iff, Bool.or_eq_false_iff, Bool.not_eq_false', beq_iff_eq, decide_eq_false_iff_not] at hb2
          omega
        clear hb2
        rcases hq with m0 | ⟨m0, m1⟩ | ⟨m0, m1, m2⟩ | ⟨m0, m1, m2, m3⟩ | ⟨m0, m1, m2, m3, m4⟩ | ⟨m0, m1, m2, m3, m4, m5⟩ | ⟨m0, m1, m2, m3, m4, m5, hw3, m6⟩
        · go_enter Tryz.func7, Tryz.ntmps7
          go_wp2_with (first
            | (go_at_call 21; (with_reducible refine (C21.out _).mono ?_); rintro e w1 ⟨rfl, HU1⟩; (have HS1 := SB.up HS0.out HU1.out); (have HS1' : Hid (SB w1 w.heap.size c v r E R cd win can way gu tr nth ti no) := HS1); clear s0 s1 s2 s3 s4 s5 s6 s7 s8 s9 s10 s11 s12 s13; (obtain ⟨s0, s1, s2, s3, s4, s5, s6, s7, s8, s9, s10, s11, s12, s13⟩ := HS1))
            | (go_at_call 22; (with_reducible refine (C22.out _).mono ?_); rintro e w2 ⟨p, cp, rfl, HU2⟩; (have HS2 := SB.up HS1'.out HU2.out); clear s0 s1 s2 s3 s4 s5 s6 s7 s8 s9 s10 s11 s12 s13; (obtain ⟨s0, s1, s2, s3, s4, s5, s6, s7, s8, s9, s10, s11, s12, s13⟩ := HS2); (have hlt := World.block_lt_of_cell? w2 _ s0); simp only at hlt)
            | (go_at_call 23; (with_reducible refine (C23.out _).mono ?_); rintro e w' ⟨rfl, hw⟩; subst w')
            | (go_at_call 23; (with_reducible refine (C23'.out _).mono ?_); rintro e w' ⟨rfl, hw⟩; subst w'))
          go_ret
          first
          | exact ⟨rfl, (((Up.alloc _ _).trans HU1.out).trans HU2.out).trans (Up.alloc _ _)⟩
          | exact ⟨rfl, ((Up.alloc _ _).trans HU1.out).trans HU2.out⟩
        · go_enter Tryz.func7, Tryz.ntmps7
          go_wp2_with (first
            | (go_at_call 21; (with_reducible refine (C21.out _).mono ?_); rintro e w1 ⟨rfl, HU1⟩; (have HS1 := SB.up HS0.out HU1.out); (have HS1' : Hid (SB w1 w.heap.size c v r E R cd win can way gu tr nth ti no) := HS1); clear s0 s1 s2 s3 s4 s5 s6 s7 s8 s9 s10 s11 s12 s13; (obtain ⟨s0, s1, s2, s3, s4, s5, s6, s7, s8, s9, s10, s11, s12, s13⟩ := HS1))
            | (go_at_call 22; (with_reducible refine (C22.out _).mono ?_); rintro e w2 ⟨p, cp, rfl, HU2⟩; (have HS2 := SB.up HS1'.out HU2.out); clear s0 s1 s2 s3 s4 s5 s6 s7 s8 s9 s10 s11 s12 s13; (obtain ⟨s0, s1, s2, s3, s4, s5, s6, s7, s8, s9, s10, s11, s12, s13⟩ := HS2); (have hlt := World.block_lt_of_cell? w2 _ s0); simp only at hlt)
            | (go_at_call 23; (with_reducible refine (C23.out _).mono ?_); rintro e w' ⟨rfl, hw⟩; subst w')
            | (go_at_call 23; (with_reducible refine (C23'.out _).mono ?_); rintro e w' ⟨rfl, hw⟩; subst w'))
          go_ret
          first
          | exact ⟨rfl, (((Up.alloc _ _).trans HU1.out).trans HU2.out).trans (Up.alloc _ _)⟩
          | exact ⟨rfl, ((Up.alloc _ _).trans HU1.out).trans HU2.out⟩
        · go_enter Tryz.func7, Tryz.ntmps7
          go_wp2_with (first
            | (go_at_call 21; (with_reducible refine (C21.out _).mono ?_); rintro e w1 ⟨rfl, HU1⟩; (have HS1 := SB.up HS0.out HU1.out); (have HS1' : Hid (SB w1 w.heap.size c v r E R cd win can way gu tr nth ti no) := HS1); clear s0 s1 s2 s3 s4 s5 s6 s7 s8 s9 s10 s11 s12 s13; (obtain ⟨s0, s1, s2, s3, s4, s5, s6, s7, s8, s9, s10, s11, s12, s13⟩ := HS1))
            | (go_at_call 22; (with_reducible refine (C22.out _).mono ?_); rintro e w2 ⟨p, cp, rfl, HU2⟩; (have HS2 := SB.up HS1'.out HU2.out); clear s0 s1 s2 s3 s4 s5 s6 s7 s8 s9 s10 s11 s12 s13; (obtain ⟨s0, s1, s2, s3, s4, s5, s6, s7, s8, s9, s10, s11, s12, s13⟩ := HS2); (have hlt := World.block_lt_of_cell? w2 _ s0); simp only at hlt)
            | (go_at_call 23; (with_reducible refine (C23.out _).mono ?_); rintro e w' ⟨rfl, hw⟩; subst w')
            | (go_at_call 23; (with_reducible refine (C23'.out _).mono ?_); rintro e w' ⟨rfl, hw⟩; subst w'))
          go_ret
          first
          | exact ⟨rfl, (((Up.alloc _ _).trans HU1.out).trans HU2.out).trans (Up.alloc _ _)⟩
          | exact ⟨rfl, ((Up.alloc _ _).trans HU1.out).trans HU2.out⟩
        · go_enter Tryz.func7, Tryz.ntmps7
          go_wp2_with (first
            | (go_at_call 21; (with_reducible refine (C21.out _).mono ?_); rintro e w1 ⟨rfl, HU1⟩; (have HS1 := SB.up HS0.out HU1.out); (have HS1' : Hid (SB w1 w.heap.size c v r E R cd win can way gu tr nth ti no) := HS1); clear s0 s1 s2 s3 s4 s5 s6 s7 s8 s9 s10 s11 s12 s13; (obtain ⟨s0, s1, s2, s3, s4, s5, s6, s7, s8, s9, s10, s11, s12, s13⟩ := HS1))
            | (go_at_call 22; (with_reducible refine (C22.out _).mono ?_); rintro e w2 ⟨p, cp, rfl, HU2⟩; (have HS2 := SB.up HS1'.out HU2.out); clear s0 s1 s2 s3 s4 s5 s6 s7 s8 s9 s10 s11 s12 s13; (obtain ⟨s0, s1, s2, s3, s4, s5, s6, s7, s8, s9, s10, s11, s12, s13⟩ := HS2); (have hlt := World.block_lt_of_cell? w2 _ s0); simp only at hlt)
            | (go_at_call 23; (with_reducible refine (C23.out _).mono ?_); rintro e w' ⟨rfl, hw⟩; subst w')
            | (go_at_call 23; (with_reducible refine (C23'.out _).mono ?_); rintro e w' ⟨rfl, hw⟩; subst w'))
          go_ret
          first
          | exact ⟨rfl, (((Up.alloc _ _).trans HU1.out).trans HU2.out).trans (Up.alloc _ _)⟩
          | exact ⟨rfl, ((Up.alloc _ _).trans HU1.out).trans HU2.out⟩
        · go_enter Tryz.func7, Tryz.ntmps7
          go_wp2_with (first
            | (go_at_call 21; (with_reducible refine (C21.out _).mono ?_); rintro e w1 ⟨rfl, HU1⟩; (have HS1 := SB.up HS0.out HU1.out); (have HS1' : Hid (SB w1 w.heap.size c v r E R cd win can way gu tr nth ti no) := HS1); clear s0 s1 s2 s3 s4 s5 s6 s7 s8 s9 s10 s11 s12 s13; (obtain ⟨s0, s1, s2, s3, s4, s5, s6, s7, s8, s9, s10, s11, s12, s13⟩ := HS1))
            | (go_at_call 22; (with_reducible refine (C22.out _).mono ?_); rintro e w2 ⟨p, cp, rfl, HU2⟩; (have HS2 := SB.up HS1'.out HU2.out); clear s0 s1 s2 s3 s4 s5 s6 s7 s8 s9 s10 s11 s12 s13; (obtain ⟨s0, s1, s2, s3, s4, s5, s6, s7, s8, s9, s10, s11, s12, s13⟩ := HS2); (have hlt := World.block_lt_of_cell? w2 _ s0); simp only at hlt)
            | (go_at_call 23; (with_reducible refine (C23.out _).mono ?_); rintro e w' ⟨rfl, hw⟩; subst w')
            | (go_at_call 23; (with_reducible refine (C23'.out _).mono ?_); rintro e w' ⟨rfl, hw⟩; subst w'))
          go_ret
          first
          | exact ⟨rfl, (((Up.alloc _ _).trans HU1.out).trans HU2.out).trans (Up.alloc _ _)⟩
          | exact ⟨rfl, ((Up.alloc _ _).trans HU1.out).trans HU2.out⟩
        · go_enter Tryz.func7, Tryz.ntmps7
          go_wp2_with (first
            | (go_at_call 21; (with_reducible refine (C21.out _).mono ?_); rintro e w1 ⟨rfl, HU1⟩; (have HS1 := SB.up HS0.out HU1.out); (have HS1' : Hid (SB w1 w.heap.size c v r E R cd win can way gu tr nth ti no) := HS1); clear s0 s1 s2 s3 s4 s5 s6 s7 s8 s9 s10 s11 s12 s13; (obtain ⟨s0, s1, s2, s3, s4, s5, s6, s7, s8, s9, s10, s11, s12, s13⟩ := HS1))
            | (go_at_call 22; (with_reducible refine (C22.out _).mono ?_); rintro e w2 ⟨p, cp, rfl, HU2⟩; (have HS2 := SB.up HS1'.out HU2.out); clear s0 s1 s2 s3 s4 s5 s6 s7 s8 s9 s10 s11 s12 s13; (obtain ⟨s0, s1, s2, s3, s4, s5, s6, s7, s8, s9, s10, s11, s12, s13⟩ := HS2); (have hlt := World.block_lt_of_cell? w2 _ s0); simp only at hlt)
            | (go_at_call 23; (with_reducible refine (C23.out _).mono ?_); rintro e w' ⟨rfl, hw⟩; subst w')
            | (go_at_call 23; (with_reducible refine (C23'.out _).mono ?_); rintro e w' ⟨rfl, hw⟩; subst w'))
          go_ret
          first
          | exact ⟨rfl, (((Up.alloc _ _).trans HU1.out).trans HU2.out).trans (Up.alloc _ _)⟩
          | exact ⟨rfl, ((Up.alloc _ _).trans HU1.out).trans HU2.out⟩
        · have b3 : (way == 3) = true := by rw [hw3]; rfl
          clear hw3
          have m6' : 2 * tr ≤ nth := by omega
          have m7 : (1 : Int) ≤ tr := by omega
          have m8 : tr ≤ 16384 := by omega
          go_enter Tryz.func7, Tryz.ntmps7
          go_wp2_with (first
            | (go_at_call 21; (with_reducible refine (C21.out _).mono ?_); rintro e w1 ⟨rfl, HU1⟩; (have HS1 := SB.up HS0.out HU1.out); (have HS1' : Hid (SB w1 w.heap.size c v r E R cd win can way gu tr nth ti no) := HS1); clear s0 s1 s2 s3 s4 s5 s6 s7 s8 s9 s10 s11 s12 s13; (obtain ⟨s0, s1, s2, s3, s4, s5, s6, s7, s8, s9, s10, s11, s12, s13⟩ := HS1))
            | (go_at_call 22; (with_reducible refine (C22.out _).mono ?_); rintro e w2 ⟨p, cp, rfl, HU2⟩; (have HS2 := SB.up HS1'.out HU2.out); clear s0 s1 s2 s3 s4 s5 s6 s7 s8 s9 s10 s11 s12 s13; (obtain ⟨s0, s1, s2, s3, s4, s5, s6, s7, s8, s9, s10, s11, s12, s13⟩ := HS2); (have hlt := World.block_lt_of_cell? w2 _ s0); simp only at hlt)
            | (go_at_call 23; (with_reducible refine (C23.out _).mono ?_); rintro e w' ⟨rfl, hw⟩; subst w')
            | (go_at_call 23; (with_reducible refine (C23'.out _).mono ?_); rintro e w' ⟨rfl, hw⟩; subst w'))
          go_ret
          first
          | exact ⟨rfl, (((Up.alloc _ _).trans HU1.out).trans HU2.out).trans (Up.alloc _ _)⟩
          | exact ⟨rfl, ((Up.alloc _ _).trans HU1.out).trans HU2.out⟩
      have hl3 : ¬ gu < 0 ∧ ¬ 16384 < gu ∧ ¬ tr < 1 ∧ ¬ 16384 < tr ∧ ¬ nth < 0 ∧ ¬ 32768 < nth ∧ (way = 3 → ¬ 2 * tr - 1 < nth) := by
        unfold levB at hb2
        simp only [Bool.and_eq_true, Bool.or_eq_true, Bool.not_eq_true', beq_eq_false_iff_ne, decide_eq_true_eq] at hb2
        refine ⟨by omega, by omega, by omega, by omega, by omega, by omega, fun h => ?_⟩
        rcases hb2.2 with q | q
        · exact absurd h q
        · omega
      obtain ⟨m0, m1, m2, m3, m4, m5, hm6⟩ := hl3
      clear hb2
      have HW : Hid (way = 3 → ¬ 2 * tr - 1 < nth) := hm6
      clear hm6
      obtain ⟨x, hx⟩ : ∃ x, R * E * (nL : Int) = x := ⟨_, rfl⟩
      obtain ⟨y, hy⟩ : ∃ y, R * E * R = y := ⟨_, rfl⟩
      have hm : manyB E R nL = (decide (16777216 < x) || decide (16777216 < y)) := by
        unfold manyB
        rw [hx, hy]
      rw [hm] at hz
      clear hm
      have HXY : Hid (IntKind.i64.wrap (R * E) = R * E ∧ IntKind.i64.wrap (R * E * (nL : Int)) = x ∧ IntKind.i64.wrap (R * R) = R * R ∧ IntKind.i64.wrap (R * R * E) = y ∧ R * R * E = y ∧ 0 ≤ x ∧ x ≤ 671088640 ∧ 0 ≤ y ∧ y ≤ 1073741824) := by
        have a1 := Int.mul_le_mul r2 e2 (by omega) (by omega)
        have a2 := Int.mul_nonneg (show 0 ≤ R by omega) (show 0 ≤ E by omega)
        have a3 := Int.mul_le_mul r2 r2 (by omega) (by omega)
        have a4 := Int.mul_nonneg (show 0 ≤ R by omega) (show 0 ≤ R by omega)
        have a5 := Int.mul_le_mul (show R * E ≤ 4194304 by omega) (show (nL : Int) ≤ 160 by omega) (by omega) (by omega)
        have a6 := Int.mul_nonneg a2 (show 0 ≤ (nL : Int) by omega)
        have a7 := Int.mul_le_mul (show R * E ≤ 4194304 by omega) r2 (by omega) (by omega)
        have a8 := Int.mul_nonneg a2 (show 0 ≤ R by omega)
        have a9 : R * R * E = R * E * R := by rw [Int.mul_assoc, Int.mul_comm]
        rw [a9, hx, hy]
        rw [hx] at a5 a6
        rw [hy] at a7 a8
        refine ⟨?_, ?_, ?_, ?_, rfl, by omega, by omega, by omega, by omega⟩ <;> (rw [IntKind.wrap_i64]; omega)
      obtain ⟨u1, u2, u3, u4, u5, u6, u7, u8, u9⟩ := HXY.out
      by_cases hw3 : way = 3
      · have m6 := HW.out hw3
        have b3 : (way == 3) = true := by rw [hw3]; rfl
        clear hw3
        have m6' : ¬ 2 * tr ≤ nth := by omega
        have m6'' : nth < 2 * tr := by omega
        have m7 : (1 : Int) ≤ tr := by omega
        have m8 : tr ≤ 16384 := by omega
        cases f1
        · have hz1 : z = 6 := by rw [← hz]; rfl
          subst hz1
          clear hz
          go_enter Tryz.func7, Tryz.ntmps7
          go_wp2_with (first
            | (go_at_call 21; (with_reducible refine (C21.out _).mono ?_); rintro e w1 ⟨rfl, HU1⟩; (have HS1 := SB.up HS0.out HU1.out); (have HS1' : Hid (SB w1 w.heap.size c v r E R cd win can way gu tr nth ti no) := HS1); clear s0 s1 s2 s3 s4 s5 s6 s7 s8 s9 s10 s11 s12 s13; (obtain ⟨s0, s1, s2, s3, s4, s5, s6, s7, s8, s9, s10, s11, s12, s13⟩ := HS1))
            | (go_at_call 22; (with_reducible refine (C22.out _).mono ?_); rintro e w2 ⟨p, cp, rfl, HU2⟩; (have HS2 := SB.up HS1'.out HU2.out); clear s0 s1 s2 s3 s4 s5 s6 s7 s8 s9 s10 s11 s12 s13; (obtain ⟨s0, s1, s2, s3, s4, s5, s6, s7, s8, s9, s10, s11, s12, s13⟩ := HS2); (have hlt := World.block_lt_of_cell? w2 _ s0); simp only at hlt)
            | (go_at_call 23; (with_reducible refine (C23.out _).mono ?_); rintro e w' ⟨rfl, hw⟩; subst w')
            | (go_at_call 23; (with_reducible refine (C23'.out _).mono ?_); rintro e w' ⟨rfl, hw⟩; subst w'))
          go_ret
          first
          | exact ⟨rfl, (((Up.alloc _ _).trans HU1.out).trans HU2.out).trans (Up.alloc _ _)⟩
          | exact ⟨rfl, ((Up.alloc _ _).trans HU1.out).trans HU2.out⟩
        cases f2
        · have hz1 : z = 6 := by rw [← hz]; rfl
          subst hz1
          clear hz
          go_enter Tryz.func7, Tryz.ntmps7
          go_wp2_with (first
            | (go_at_call 21; (with_reducible refine (C21.out _).mono ?_); rintro e w1 ⟨rfl, HU1⟩; (have HS1 := SB.up HS0.out HU1.out); (have HS1' : Hid (SB w1 w.heap.size c v r E R cd win can way gu tr nth ti no) := HS1); clear s0 s1 s2 s3 s4 s5 s6 s7 s8 s9 s10 s11 s12 s13; (obtain ⟨s0, s1, s2, s3, s4, s5, s6, s7, s8, s9, s10, s11, s12, s13⟩ := HS1))
            | (go_at_call 22; (with_reducible refine (C22.out _).mono ?_); rintro e w2 ⟨p, cp, rfl, HU2⟩; (have HS2 := SB.up HS1'.out HU2.out); clear s0 s1 s2 s3 s4 s5 s6 s7 s8 s9 s10 s11 s12 s13; (obtain ⟨s0, s1, s2, s3, s4, s5, s6, s7, s8, s9, s10, s11, s12, s13⟩ := HS2); (have hlt := World.block_lt_of_cell? w2 _ s0); simp only at hlt)
            | (go_at_call 23; (with_reducible refine (C23.out _).mono ?_); rintro e w' ⟨rfl, hw⟩; subst w')
            | (go_at_call 23; (with_reducible refine (C23'.out _).mono ?_); rintro e w' ⟨rfl, hw⟩; subst w'))
          go_ret
          first
          | exact ⟨rfl, (((Up.alloc _ _).trans HU1.out).trans HU2.out).trans (Up.alloc _ _)⟩
          | exact ⟨rfl, ((Up.alloc _ _).trans HU1.out).trans HU2.out⟩
        cases g1
        · cases g2
          · by_cases o1 : 16777216 < x
            · have hz1 : z = 3 := by rw [← hz]; simp [o1]
              subst hz1
              clear hz
              go_enter Tryz.func7, Tryz.ntmps7
              go_wp2_with (first
                | (go_at_call 21; (with_reducible refine (C21.out _).mono ?_); rintro e w1 ⟨rfl, HU1⟩; (have HS1 := SB.up HS0.out HU1.out); (have HS1' : Hid (SB w1 w.heap.size c v r E R cd win can way gu tr nth ti no) := HS1); clear s0 s1 s2 s3 s4 s5 s6 s7 s8 s9 s10 s11 s12 s13; (obtain ⟨s0, s1, s2, s3, s4, s5, s6, s7, s8, s9, s10, s11, s12, s13⟩ := HS1))
                | (go_at_call 22; (with_reducible refine (C22.out _).mono ?_); rintro e w2 ⟨p, cp, rfl, HU2⟩; (have HS2 := SB.up HS1'.out HU2.out); clear s0 s1 s2 s3 s4 s5 s6 s7 s8 s9 s10 s11 s12 s13; (obtain ⟨s0, s1, s2, s3, s4, s5, s6, s7, s8, s9, s10, s11, s12, s13⟩ := HS2); (have hlt := World.block_lt_of_cell? w2 _ s0); simp only at hlt)
                | (go_at_call 23; (with_reducible refine (C23.out _).mono ?_); rintro e w' ⟨rfl, hw⟩; subst w')
                | (go_at_call 23; (with_reducible refine (C23'.out _).mono ?_); rintro e w' ⟨rfl, hw⟩; subst w'))
              all_goals first
              | (exfalso; omega)
              | (go_ret; exact ⟨rfl, (((Up.alloc _ _).trans HU1.out).trans HU2.out).trans (Up.alloc _ _)⟩)
              | (go_ret; exact ⟨rfl, ((Up.alloc _ _).trans HU1.out).trans HU2.out⟩)
            · by_cases o2 : 16777216 < y
              · have hz1 : z = 3 := by rw [← hz]; simp [o2]
                subst hz1
                clear hz
                go_enter Tryz.func7, Tryz.ntmps7
                go_wp2_with (first
                  | (go_at_call 21; (with_reducible refine (C21.out _).mono ?_); rintro e w1 ⟨rfl, HU1⟩; (have HS1 := SB.up HS0.out HU1.out); (have HS1' : Hid (SB w1 w.heap.size c v r E R cd win can way gu tr nth ti no) := HS1); clear s0 s1 s2 s3 s4 s5 s6 s7 s8 s9 s10 s11 s12 s13; (obtain ⟨s0, s1, s2, s3, s4, s5, s6, s7, s8, s9, s10, s11, s12, s13⟩ := HS1))
                  | (go_at_call 22; (with_reducible refine (C22.out _).mono ?_); rintro e w2 ⟨p, cp, rfl, HU2⟩; (have HS2 := SB.up HS1'.out HU2.out); clear s0 s1 s2 s3 s4 s5 s6 s7 s8 s9 s10 s11 s12 s13; (obtain ⟨s0, s1, s2, s3, s4, s5, s6, s7, s8, s9, s10, s11, s12, s13⟩ := HS2); (have hlt := World.block_lt_of_cell? w2 _ s0); simp only at hlt)
                  | (go_at_call 23; (with_reducible refine (C23.out _).mono ?_); rintro e w' ⟨rfl, hw⟩; subst w')
                  | (go_at_call 23; (with_reducible refine (C23'.out _).mono ?_); rintro e w' ⟨rfl, hw⟩; subst w'))
                all_goals first
                | (exfalso; omega)
                | (go_ret; exact ⟨rfl, (((Up.alloc _ _).trans HU1.out).trans HU2.out).trans (Up.alloc _ _)⟩)
                | (go_ret; exact ⟨rfl, ((Up.alloc _ _).trans HU1.out).trans HU2.out⟩)
              · have hz1 : z = 0 := by rw [← hz]; simp [o1, o2]
                subst hz1
                clear hz
                go_enter Tryz.func7, Tryz.ntmps7
                go_wp2_with (first
                  | (go_at_call 21; (with_reducible refine (C21.out _).mono ?_); rintro e w1 ⟨rfl, HU1⟩; (have HS1 := SB.up HS0.out HU1.out); (have HS1' : Hid (SB w1 w.heap.size c v r E R cd win can way gu tr nth ti no) := HS1); clear s0 s1 s2 s3 s4 s5 s6 s7 s8 s9 s10 s11 s12 s13; (obtain ⟨s0, s1, s2, s3, s4, s5, s6, s7, s8, s9, s10, s11, s12, s13⟩ := HS1))
                  | (go_at_call 22; (with_reducible refine (C22.out _).mono ?_); rintro e w2 ⟨p, cp, rfl, HU2⟩; (have HS2 := SB.up HS1'.out HU2.out); clear s0 s1 s2 s3 s4 s5 s6 s7 s8 s9 s10 s11 s12 s13; (obtain ⟨s0, s1, s2, s3, s4, s5, s6, s7, s8, s9, s10, s11, s12, s13⟩ := HS2); (have hlt := World.block_lt_of_cell? w2 _ s0); simp only at hlt)
                  | (go_at_call 23; (with_reducible refine (C23.out _).mono ?_); rintro e w' ⟨rfl, hw⟩; subst w')
                  | (go_at_call 23; (with_reducible refine (C23'.out _).mono ?_); rintro e w' ⟨rfl, hw⟩; subst w'))
                all_goals first
                | (exfalso; omega)
                | (go_ret; exact ⟨rfl, (((Up.alloc _ _).trans HU1.out).trans HU2.out).trans (Up.alloc _ _)⟩)
                | (go_ret; exact ⟨rfl, ((Up.alloc _ _).trans HU1.out).trans HU2.out⟩)
          · have hz1 : z = 2 := by rw [← hz]; rfl
            subst hz1
            clear hz
            go_enter Tryz.func7, Tryz.ntmps7
            go_wp2_with (first
              | (go_at_call 21; (with_reducible refine (C21.out _).mono ?_); rintro e w1 ⟨rfl, HU1⟩; (have HS1 := SB.up HS0.out HU1.out); (have HS1' : Hid (SB w1 w.heap.size c v r E R cd win can way gu tr nth ti no) := HS1); clear s0 s1 s2 s3 s4 s5 s6 s7 s8 s9 s10 s11 s12 s13; (obtain ⟨s0, s1, s2, s3, s4, s5, s6, s7, s8, s9, s10, s11, s12, s13⟩ := HS1))
              | (go_at_call 22; (with_reducible refine (C22.out _).mono ?_); rintro e w2 ⟨p, cp, rfl, HU2⟩; (have HS2 := SB.up HS1'.out HU2.out); clear s0 s1 s2 s3 s4 s5 s6 s7 s8 s9 s10 s11 s12 s13; (obtain ⟨s0, s1, s2, s3, s4, s5, s6, s7, s8, s9, s10, s11, s12, s13⟩ := HS2); (have hlt := World.block_lt_of_cell? w2 _ s0); simp only at hlt)
              | (go_at_call 23; (with_reducible refine (C23.out _).mono ?_); rintro e w' ⟨rfl, hw⟩; subst w')
              | (go_at_call 23; (with_reducible refine (C23'.out _).mono ?_); rintro e w' ⟨rfl, hw⟩; subst w'))
            go_ret
            first
            | exact ⟨rfl, (((Up.alloc _ _).trans HU1.out).trans HU2.out).trans (Up.alloc _ _)⟩
            | exact ⟨rfl, ((Up.alloc _ _).trans HU1.out).trans HU2.out⟩
        · have hz1 : z = 2 := by rw [← hz]; cases g2 <;> rfl
          subst hz1
          clear hz
          go_enter Tryz.func7, Tryz.ntmps7
          go_wp2_with (first
            | (go_at_call 21; (with_reducible refine (C21.out _).mono ?_); rintro e w1 ⟨rfl, HU1⟩; (have HS1 := SB.up HS0.out HU1.out); (have HS1' : Hid (SB w1 w.heap.size c v r E R cd win can way gu tr nth ti no) := HS1); clear s0 s1 s2 s3 s4 s5 s6 s7 s8 s9 s10 s11 s12 s13; (obtain ⟨s0, s1, s2, s3, s4, s5, s6, s7, s8, s9, s10, s11, s12, s13⟩ := HS1))
            | (go_at_call 22; (with_reducible refine (C22.out _).mono ?_); rintro e w2 ⟨p, cp, rfl, HU2⟩; (have HS2 := SB.up HS1'.out HU2.out); clear s0 s1 s2 s3 s4 s5 s6 s7 s8 s9 s10 s11 s12 s13; (obtain ⟨s0, s1, s2, s3, s4, s5, s6, s7, s8, s9, s10, s11, s12, s13⟩ := HS2); (have hlt := World.block_lt_of_cell? w2 _ s0); simp only at hlt)
            | (go_at_call 23; (with_reducible refine (C23.out _).mono ?_); rintro e w' ⟨rfl, hw⟩; subst w')
            | (go_at_call 23; (with_reducible refine (C23'.out _).mono ?_); rintro e w' ⟨rfl, hw⟩; subst w'))
          go_ret
          first
          | exact ⟨rfl, (((Up.alloc _ _).trans HU1.out).trans HU2.out).trans (Up.alloc _ _)⟩
          | exact ⟨rfl, ((Up.alloc _ _).trans HU1.out).trans HU2.out⟩
      · have b3 : (way == 3) = false := by rw [beq_eq_false_iff_ne]; exact hw3
        clear hw3
        cases f1
        · have hz1 : z = 6 := by rw [← hz]; rfl
          subst hz1
          clear hz
          go_enter Tryz.func7, Tryz.ntmps7
          go_wp2_with (first
            | (go_at_call 21; (with_reducible refine (C21.out _).mono ?_); rintro e w1 ⟨rfl, HU1⟩; (have HS1 := SB.up HS0.out HU1.out); (have HS1' : Hid (SB w1 w.heap.size c v r E R cd win can way gu tr nth ti no) := HS1); clear s0 s1 s2 s3 s4 s5 s6 s7 s8 s9 s10 s11 s12 s13; (obtain ⟨s0, s1, s2, s3, s4, s5, s6, s7, s8, s9, s10, s11, s12, s13⟩ := HS1))
            | (go_at_call 22; (with_reducible refine (C22.out _).mono ?_); rintro e w2 ⟨p, cp, rfl, HU2⟩; (have HS2 := SB.up HS1'.out HU2.out); clear s0 s1 s2 s3 s4 s5 s6 s7 s8 s9 s10 s11 s12 s13; (obtain ⟨s0, s1, s2, s3, s4, s5, s6, s7, s8, s9, s10, s11, s12, s13⟩ := HS2); (have hlt := World.block_lt_of_cell? w2 _ s0); simp only at hlt)
            | (go_at_call 23; (with_reducible refine (C23.out _).mono ?_); rintro e w' ⟨rfl, hw⟩; subst w')
            | (go_at_call 23; (with_reducible refine (C23'.out _).mono ?_); rintro e w' ⟨rfl, hw⟩; subst w'))
          go_ret
          first
          | exact ⟨rfl, (((Up.alloc _ _).trans HU1.out).trans HU2.out).trans (Up.alloc _ _)⟩
          | exact ⟨rfl, ((Up.alloc _ _).trans HU1.out).trans HU2.out⟩
        cases f2
        · have hz1 : z = 6 := by rw [← hz]; rfl
          subst hz1
          clear hz
          go_enter Tryz.func7, Tryz.ntmps7
          go_wp2_with (first
            | (go_at_call 21; (with_reducible refine (C21.out _).mono ?_); rintro e w1 ⟨rfl, HU1⟩; (have HS1 := SB.up HS0.out HU1.out); (have HS1' : Hid (SB w1 w.heap.size c v r E R cd win can way gu tr nth ti no) := HS1); clear s0 s1 s2 s3 s4 s5 s6 s7 s8 s9 s10 s11 s12 s13; (obtain ⟨s0, s1, s2, s3, s4, s5, s6, s7, s8, s9, s10, s11, s12, s13⟩ := HS1))
            | (go_at_call 22; (with_reducible refine (C22.out _).mono ?_); rintro e w2 ⟨p, cp, rfl, HU2⟩; (have HS2 := SB.up HS1'.out HU2.out); clear s0 s1 s2 s3 s4 s5 s6 s7 s8 s9 s10 s11 s12 s13; (obtain ⟨s0, s1, s2, s3, s4, s5, s6, s7, s8, s9, s10, s11, s12, s13⟩ := HS2); (have hlt := World.block_lt_of_cell? w2 _ s0); simp only at hlt)
            | (go_at_call 23; (with_reducible refine (C23.out _).mono ?_); rintro e w' ⟨rfl, hw⟩; subst w')
            | (go_at_call 23; (with_reducible refine (C23'.out _).mono ?_); rintro e w' ⟨rfl, hw⟩; subst w'))
          go_ret
          first
          | exact ⟨rfl, (((Up.alloc _ _).trans HU1.out).trans HU2.out).trans (Up.alloc _ _)⟩
          | exact ⟨rfl, ((Up.alloc _ _).trans HU1.out).trans HU2.out⟩
        cases g1
        · cases g2
          · by_cases o1 : 16777216 < x
            · have hz1 : z = 3 := by rw [← hz]; simp [o1]
              subst hz1
              clear hz
              go_enter Tryz.func7, Tryz.ntmps7
              go_wp2_with (first
                | (go_at_call 21; (with_reducible refine (C21.out _).mono ?_); rintro e w1 ⟨rfl, HU1⟩; (have HS1 := SB.up HS0.out HU1.out); (have HS1' : Hid (SB w1 w.heap.size c v r E R cd win can way gu tr nth ti no) := HS1); clear s0 s1 s2 s3 s4 s5 s6 s7 s8 s9 s10 s11 s12 s13; (obtain ⟨s0, s1, s2, s3, s4, s5, s6, s7, s8, s9, s10, s11, s12, s13⟩ := HS1))
                | (go_at_call 22; (with_reducible refine (C22.out _).mono ?_); rintro e w2 ⟨p, cp, rfl, HU2⟩; (have HS2 := SB.up HS1'.out HU2.out); clear s0 s1 s2 s3 s4 s5 s6 s7 s8 s9 s10 s11 s12 s13; (obtain ⟨s0, s1, s2, s3, s4, s5, s6, s7, s8, s9, s10, s11, s12, s13⟩ := HS2); (have hlt := World.block_lt_of_cell? w2 _ s0); simp only at hlt)
                | (go_at_call 23; (with_reducible refine (C23.out _).mono ?_); rintro e w' ⟨rfl, hw⟩; subst w')
                | (go_at_call 23; (with_reducible refine (C23'.out _).mono ?_); rintro e w' ⟨rfl, hw⟩; subst w'))
              all_goals first
              | (exfalso; omega)
              | (go_ret; exact ⟨rfl, (((Up.alloc _ _).trans HU1.out).trans HU2.out).trans (Up.alloc _ _)⟩)
              | (go_ret; exact ⟨rfl, ((Up.alloc _ _).trans HU1.out).trans HU2.out⟩)
            · by_cases o2 : 16777216 < y
              · have hz1 : z = 3 := by rw [← hz]; simp [o2]
                subst hz1
                clear hz
                go_enter Tryz.func7, Tryz.ntmps7
                go_wp2_with (first
                  | (go_at_call 21; (with_reducible refine (C21.out _).mono ?_); rintro e w1 ⟨rfl, HU1⟩; (have HS1 := SB.up HS0.out HU1.out); (have HS1' : Hid (SB w1 w.heap.size c v r E R cd win can way gu tr nth ti no) := HS1); clear s0 s1 s2 s3 s4 s5 s6 s7 s8 s9 s10 s11 s12 s13; (obtain ⟨s0, s1, s2, s3, s4, s5, s6, s7, s8, s9, s10, s11, s12, s13⟩ := HS1))
                  | (go_at_call 22; (with_reducible refine (C22.out _).mono ?_); rintro e w2 ⟨p, cp, rfl, HU2⟩; (have HS2 := SB.up HS1'.out HU2.out); clear s0 s1 s2 s3 s4 s5 s6 s7 s8 s9 s10 s11 s12 s13; (obtain ⟨s0, s1, s2, s3, s4, s5, s6, s7, s8, s9, s10, s11, s12, s13⟩ := HS2); (have hlt := World.block_lt_of_cell? w2 _ s0); simp only at hlt)
                  | (go_at_call 23; (with_reducible refine (C23.out _).mono ?_); rintro e w' ⟨rfl, hw⟩; subst w')
                  | (go_at_call 23; (with_reducible refine (C23'.out _).mono ?_); rintro e w' ⟨rfl, hw⟩; subst w'))
                all_goals first
                | (exfalso; omega)
                | (go_ret; exact ⟨rfl, (((Up.alloc _ _).trans HU1.out).trans HU2.out).trans (Up.alloc _ _)⟩)
                | (go_ret; exact ⟨rfl, ((Up.alloc _ _).trans HU1.out).trans HU2.out⟩)
              · have hz1 : z = 0 := by rw [← hz]; simp [o1, o2]
                subst hz1
                clear hz
                go_enter Tryz.func7, Tryz.ntmps7
                go_wp2_with (first
                  | (go_at_call 21; (with_reducible refine (C21.out _).mono ?_); rintro e w1 ⟨rfl, HU1⟩; (have HS1 := SB.up HS0.out HU1.out); (have HS1' : Hid (SB w1 w.heap.size c v r E R cd win can way gu tr nth ti no) := HS1); clear s0 s1 s2 s3 s4 s5 s6 s7 s8 s9 s10 s11 s12 s13; (obtain ⟨s0, s1, s2, s3, s4, s5, s6, s7, s8, s9, s10, s11, s12, s13⟩ := HS1))
                  | (go_at_call 22; (with_reducible refine (C22.out _).mono ?_); rintro e w2 ⟨p, cp, rfl, HU2⟩; (have HS2 := SB.up HS1'.out HU2.out); clear s0 s1 s2 s3 s4 s5 s6 s7 s8 s9 s10 s11 s12 s13; (obtain ⟨s0, s1, s2, s3, s4, s5, s6, s7, s8, s9, s10, s11, s12, s13⟩ := HS2); (have hlt := World.block_lt_of_cell? w2 _ s0); simp only at hlt)
                  | (go_at_call 23; (with_reducible refine (C23.out _).mono ?_); rintro e w' ⟨rfl, hw⟩; subst w')
                  | (go_at_call 23; (with_reducible refine (C23'.out _).mono ?_); rintro e w' ⟨rfl, hw⟩; subst w'))
                all_goals first
                | (exfalso; omega)
                | (go_ret; exact ⟨rfl, (((Up.alloc _ _).trans HU1.out).trans HU2.out).trans (Up.alloc _ _)⟩)
                | (go_ret; exact ⟨rfl, ((Up.alloc _ _).trans HU1.out).trans HU2.out⟩)
          · have hz1 : z = 2 := by rw [← hz]; rfl
            subst hz1
            clear hz
            go_enter Tryz.func7, Tryz.ntmps7
            go_wp2_with (first
              | (go_at_call 21; (with_reducible refine (C21.out _).mono ?_); rintro e w1 ⟨rfl, HU1⟩; (have HS1 := SB.up HS0.out HU1.out); (have HS1' : Hid (SB w1 w.heap.size c v r E R cd win can way gu tr nth ti no) := HS1); clear s0 s1 s2 s3 s4 s5 s6 s7 s8 s9 s10 s11 s12 s13; (obtain ⟨s0, s1, s2, s3, s4, s5, s6, s7, s8, s9, s10, s11, s12, s13⟩ := HS1))
              | (go_at_call 22; (with_reducible refine (C22.out _).mono ?_); rintro e w2 ⟨p, cp, rfl, HU2⟩; (have HS2 := SB.up HS1'.out HU2.out); clear s0 s1 s2 s3 s4 s5 s6 s7 s8 s9 s10 s11 s12 s13; (obtain ⟨s0, s1, s2, s3, s4, s5, s6, s7, s8, s9, s10, s11, s12, s13⟩ := HS2); (have hlt := World.block_lt_of_cell? w2 _ s0); simp only at hlt)
              | (go_at_call 23; (with_reducible refine (C23.out _).mono ?_); rintro e w' ⟨rfl, hw⟩; subst w')
              | (go_at_call 23; (with_reducible refine (C23'.out _).mono ?_); rintro e w' ⟨rfl, hw⟩; subst w'))
            go_ret
            first
            | exact ⟨rfl, (((Up.alloc _ _).trans HU1.out).trans HU2.out).trans (Up.alloc _ _)⟩
            | exact ⟨rfl, ((Up.alloc _ _).trans HU1.out).trans HU2.out⟩
        · have hz1 : z = 2 := by rw [← hz]; cases g2 <;> rfl
          subst hz1
          clear hz
          go_enter Tryz.func7, Tryz.ntmps7
          go_wp2_with (first
            | (go_at_call 21; (with_reducible refine (C21.out _).mono ?_); rintro e w1 ⟨rfl, HU1⟩; (have HS1 := SB.up HS0.out HU1.out); (have HS1' : Hid (SB w1 w.heap.size c v r E R cd win can way gu tr nth ti no) := HS1); clear s0 s1 s2 s3 s4 s5 s6 s7 s8 s9 s10 s11 s12 s13; (obtain ⟨s0, s1, s2, s3, s4, s5, s6, s7, s8, s9, s10, s11, s12, s13⟩ := HS1))
            | (go_at_call 22; (with_reducible refine (C22.out _).mono ?_); rintro e w2 ⟨p, cp, rfl, HU2⟩; (have HS2 := SB.up HS1'.out HU2.out); clear s0 s1 s2 s3 s4 s5 s6 s7 s8 s9 s10 s11 s12 s13; (obtain ⟨s0, s1, s2, s3, s4, s5, s6, s7, s8, s9, s10, s11, s12, s13⟩ := HS2); (have hlt := World.block_lt_of_cell? w2 _ s0); simp only at hlt)
            | (go_at_call 23; (with_reducible refine (C23.out _).mono ?_); rintro e w' ⟨rfl, hw⟩; subst w')
            | (go_at_call 23; (with_reducible refine (C23'.out _).mono ?_); rintro e w' ⟨rfl, hw⟩; subst w'))
          go_ret
          first
          | exact ⟨rfl, (((Up.alloc _ _).trans HU1.out).trans HU2.out).trans (Up.alloc _ _)⟩
          | exact ⟨rfl, ((Up.alloc _ _).trans HU1.out).trans HU2.out⟩
    · have b' : (ce != 0) = true := by rw [bne_iff_ne]; exact h1
      have hz1 : z = ce := by rw [← hz]; simp [h1]
      subst hz1
      clear hz h1
      go_enter Tryz.func7, Tryz.ntmps7
      go_wp2_with (first
        | (go_at_call 21; (with_reducible refine (C21.out _).mono ?_); rintro e w1 ⟨rfl, HU1⟩; (have HS1 := SB.up HS0.out HU1.out); (have HS1' : Hid (SB w1 w.heap.size c v r E R cd win can way gu tr nth ti no) := HS1); clear s0 s1 s2 s3 s4 s5 s6 s7 s8 s9 s10 s11 s12 s13; (obtain ⟨s0, s1, s2, s3, s4, s5, s6, s7, s8, s9, s10, s11, s12, s13⟩ := HS1))
        | (go_at_call 22; (with_reducible refine (C22.out _).mono ?_); rintro e w2 ⟨p, cp, rfl, HU2⟩; (have HS2 := SB.up HS1'.out HU2.out); clear s0 s1 s2 s3 s4 s5 s6 s7 s8 s9 s10 s11 s12 s13; (obtain ⟨s0, s1, s2, s3, s4, s5, s6, s7, s8, s9, s10, s11, s12, s13⟩ := HS2); (have hlt := World.block_lt_of_cell? w2 _ s0); simp only at hlt))
      go_ret
      first
      | exact ⟨rfl, (((Up.alloc _ _).trans HU1.out).trans HU2.out).trans (Up.alloc _ _)⟩
      | exact ⟨rfl, ((Up.alloc _ _).trans HU1.out).trans HU2.out⟩
  · have b' : (z0 != 0) = true := by rw [bne_iff_ne]; exact h0
    have hz1 : z = z0 := by rw [← hz]; simp [h0]
    subst hz1
    clear hz h0 hz0
    go_enter Tryz.func7, Tryz.ntmps7
    go_wp2_with (go_at_call 21; (with_reducible refine (C21.out _).mono ?_); rintro e w1 ⟨rfl, HU1⟩; (have HS1 := SB.up HS0.out HU1.out); (have HS1' : Hid (SB w1 w.heap.size c v r E R cd win can way gu tr nth ti no) := HS1); clear s0 s1 s2 s3 s4 s5 s6 s7 s8 s9 s10 s11 s12 s13; (obtain ⟨s0, s1, s2, s3, s4, s5, s6, s7, s8, s9, s10, s11, s12, s13⟩ := HS1))
    go_ret
    exact ⟨rfl, (Up.alloc _ _).trans HU1.out⟩
end Go.Proofs.YtflngnnoibkkoaaGreat

/- Dwell: Check, and the pulse that a setup has. -/
import Derived.Test.YtflngnnoibkkoaaGreatFt
import Derived.Test.YtflngnnoibkkoaaGreatZ
namespace Go.Proofs.YtflngnnoibkkoaaGreat
open Go.ChangeShapes Go.WideShapes Go.ChangeAt Go.RowKit Go.Fl Ieee
set_option maxRecDepth 200000
set_option maxHeartbeats 8000000
attribute [local go_sem] run_store_float call34 call33 run_neg fold_eq fold_ne fold_lt fold_gt abs_eq

theorem check_bounds {c v r : Option Nat} {E R : Int} (h : checkF c v r E R = 0) : 1 ≤ E ∧ E ≤ 16384 ∧ 1 ≤ R ∧ R ≤ 256 ∧ E * R ≤ 262144 := by
  unfold checkF at h
  split at h
  · rename_i q
    obtain ⟨-, -, -, q1, q2, q3, q4⟩ := q
    split at h
    · cases h
    · omega
  · cases h
theorem few_if {c : Prop} [Decidable c] {a b : List (Option Nat × Option Nat)} (ha : a.length ≤ 160) (hb : b.length ≤ 160) : (if c then a else b).length ≤ 160 := by
  split
  · exact ha
  · exact hb
theorem few_barker {m : Int} (h : (rowS m).size ≤ 160) : (barkerL m).length ≤ 160 := by
  unfold barkerL
  rw [List.length_map, List.length_range]
  exact h
theorem code_few (n : Int) : (codeL n).length ≤ 160 := by
  unfold codeL
  refine few_if (by decide) (few_if (few_barker (by decide +kernel)) (few_if (few_barker (by decide +kernel)) (few_if (few_barker (by decide +kernel)) (few_if (few_barker (by decide +kernel)) (few_if (few_barker (by decide +kernel)) (few_if (few_barker (by decide +kernel)) (few_if (few_barker (by decide +kernel)) (few_if ?_ (few_if ?_ (few_if ?_ (few_if ?_ (few_if ?_ (by decide)))))))))))))
  · unfold frankL; simp
  · unfold frankL; simp
  · unfold chirpL
    simp only [gt_iff_lt, Int.reduceLT, if_false]
    split <;> simp
  · unfold chirpL
    simp only [gt_iff_lt, Int.reduceLT, if_false]
    split <;> simp
  · unfold stepsL; simp [order12]
/-- Check's answer. -/
def stE (c v r : Nat) (E R cd can way gu tr nth : Int) (ti no : Nat) : Int :=
  if checkF (ab c) (ab v) (ab r) E R ≠ 0 then checkF (ab c) (ab v) (ab r) E R else if codeE cd ≠ 0 then codeE cd
  else if (decide (E < ((codeL cd).length : Int)) || !canB R can || !levB way gu tr nth) = true then 2
  else if (fin (ab ti) && fin (ab no)) = false then 6
  else if (ltF (ab ti) (ab 0) || ltF (ab no) (ab 0)) = true then 2
  else if manyB E R (codeL cd).length = true then 3 else 0
theorem t42 (c v r : Nat) {E R : Int} {n : Nat} (hE : 1 ≤ E ∧ E ≤ 16384) (hR : 1 ≤ R ∧ R ≤ 256) (hn : n ≤ 1000) (w : World) : Calls Tryz.prog 42 #[.agg #[.float .f64 c, .float .f64 v, .float .f64 r, .int .i64 E, .int .i64 R], .int .i64 n] w fun e w' => e = .returned (.bool (manyB E R n)) ∧ Hid (Up w w') := by
  obtain ⟨q, hq⟩ : ∃ q, R * E = q := ⟨_, rfl⟩
  have q1 : 0 ≤ q ∧ q ≤ 4194304 := by
    rw [← hq]
    have a := Int.mul_le_mul hR.2 hE.2 (by omega) (by omega)
    have b := Int.mul_nonneg (show 0 ≤ R by omega) (show 0 ≤ E by omega)
    omega
  obtain ⟨x, hx⟩ : ∃ x, q * (n : Int) = x := ⟨_, rfl⟩
  have x1 : 0 ≤ x ∧ x ≤ 4194304000 := by
    rw [← hx]
    have a := Int.mul_le_mul q1.2 (show (n : Int) ≤ 1000 by omega) (by omega) (by omega)
    have b := Int.mul_nonneg q1.1 (show 0 ≤ (n : Int) by omega)
    omega
  obtain ⟨y, hy⟩ : ∃ y, q * R = y := ⟨_, rfl⟩
  have y1 : 0 ≤ y ∧ y ≤ 1073741824 := by
    rw [← hy]
    have a := Int.mul_le_mul q1.2 hR.2 (by omega) (by omega)
    have b := Int.mul_nonneg q1.1 (show 0 ≤ R by omega)
    omega
  have hm : manyB E R n = (decide (16777216 < x) || decide (16777216 < y)) := by
    unfold manyB
    rw [hq, hx, hy]
  rw [hm]
  obtain ⟨q11, q12⟩ := q1
  obtain ⟨x11, x12⟩ := x1
  obtain ⟨y11, y12⟩ := y1
  have w1 : IntKind.i64.wrap (R * E) = q := by rw [hq, IntKind.wrap_i64]; omega
  have w2 : IntKind.i64.wrap (q * (n : Int)) = x := by rw [hx, IntKind.wrap_i64]; omega
  have w3 : IntKind.i64.wrap (q * R) = y := by rw [hy, IntKind.wrap_i64]; omega
  clear hm
  go_enter Tryz.func42, Tryz.ntmps42
  go_wp2
  all_goals (go_ret; go_tidy; refine ⟨?_, Up.alloc _ _⟩; simp_all)
/-- A setup in memory. -/
structure SB (w : World) (g : Nat) (c v r : Nat) (E R cd win can way gu tr nth : Int) (ti no : Nat) : Prop where
  s0 : w.cell? ⟨g, 0, none⟩ = some (.float .f64 c)
  s1 : w.cell? ⟨g, 1, none⟩ = some (.float .f64 v)
  s2 : w.cell? ⟨g, 2, none⟩ = some (.float .f64 r)
  s3 : w.cell? ⟨g, 3, none⟩ = some (.int .i64 E)
  s4 : w.cell? ⟨g, 4, none⟩ = some (.int .i64 R)
  s5 : w.cell? ⟨g, 5, none⟩ = some (.int .i64 cd)
  s6 : w.cell? ⟨g, 6, none⟩ = some (.int .i8 win)
  s7 : w.cell? ⟨g, 7, none⟩ = some (.int .i64 can)
  s8 : w.cell? ⟨g, 8, none⟩ = some (.int .i8 way)
  s9 : w.cell? ⟨g, 9, none⟩ = some (.int .i64 gu)
  s10 : w.cell? ⟨g, 10, none⟩ = some (.int .i64 tr)
  s11 : w.cell? ⟨g, 11, none⟩ = some (.int .i64 nth)
  s12 : w.cell? ⟨g, 12, none⟩ = some (.float .f64 ti)
  s13 : w.cell? ⟨g, 13, none⟩ = some (.float .f64 no)
theorem SB.up {w w' : World} {g : Nat} {c v r : Nat} {E R cd win can way gu tr nth : Int} {ti no : Nat} (h : SB w g c v r E R cd win can way gu tr nth ti no) (hu : Up w w') : SB w' g c v r E R cd win can way gu tr nth ti no :=
  ⟨cell_up h.s0 hu, cell_up h.s1 hu, cell_up h.s2 hu, cell_up h.s3 hu, cell_up h.s4 hu, cell_up h.s5 hu, cell_up h.s6 hu, cell_up h.s7 hu, cell_up h.s8 hu, cell_up h.s9 hu, cell_up h.s10 hu, cell_up h.s11 hu, cell_up h.s12 hu, cell_up h.s13 hu⟩
theorem SB.new (w : World) (c v r : Nat) (E R cd win can way gu tr nth : Int) (ti no : Nat) : SB (w.alloc (.cells #[.float .f64 c, .float .f64 v, .float .f64 r, .int .i64 E, .int .i64 R, .int .i64 cd, .int .i8 win, .int .i64 can, .int .i8 way, .int .i64 gu, .int .i64 tr, .int .i64 nth, .float .f64 ti, .float .f64 no] 27)) w.heap.size c v r E R cd win can way gu tr nth ti no :=
  ⟨World.cell?_alloc_at _ _ _ _ rfl, World.cell?_alloc_at _ _ _ _ rfl, World.cell?_alloc_at _ _ _ _ rfl, World.cell?_alloc_at _ _ _ _ rfl, World.cell?_alloc_at _ _ _ _ rfl, World.cell?_alloc_at _ _ _ _ rfl, World.cell?_alloc_at _ _ _ _ rfl, World.cell?_alloc_at _ _ _ _ rfl, World.cell?_alloc_at _ _ _ _ rfl, World.cell?_alloc_at _ _ _ _ rfl, World.cell?_alloc_at _ _ _ _ rfl, World.cell?_alloc_at _ _ _ _ rfl, World.cell?_alloc_at _ _ _ _ rfl, World.cell?_alloc_at _ _ _ _ rfl⟩
/-- What Code leaves, its row laid open. -/
def CdR (w : World) (cd : Int) (e : Ending) (w' : World) : Prop := ∃ p cp d, e = .returned (.tuple #[.slice p (codeL cd).length cp, .int .i64 (codeE cd)]) ∧ Hid (CRow w.heap.size w' (.slice p (codeL cd).length cp) d) ∧ Hid (Up w w') ∧ Hid (d.map ab2 = codeL cd)
theorem t11o (cd : Int) (w : World) : Calls Tryz.prog 11 #[.int .i64 cd] w (CdR w cd) := (t11 cd w).mono fun e w' ⟨v, d, he, hv, hu, hd⟩ => by
  have hl : d.length = (codeL cd).length := by rw [← hd.out, List.length_map]
  obtain ⟨p, cp, hp, -⟩ := own_form hv.out
  rw [hl] at hp
  subst hp
  exact ⟨p, cp, d, he, hv, hu, hd⟩
/-- The pulse of a setup that may be, or why it may not be. -/
def SnR (w : World) (z cd : Int) (e : Ending) (w' : World) : Prop := (z ≠ 0 ∧ e = .returned (.tuple #[.slice none 0 0, .int .i64 z]) ∧ Hid (Up w w')) ∨ (z = 0 ∧ ∃ p cp d, e = .returned (.tuple #[.slice p (codeL cd).length cp, .int .i64 0]) ∧ Hid (CRow w.heap.size w' (.slice p (codeL cd).length cp) d) ∧ Hid (Up w w') ∧ Hid (d.map ab2 = codeL cd))
theorem t20 (c v r : Nat) (E R cd win can way gu tr nth : Int) (ti no : Nat) (w : World) : Calls Tryz.prog 20 #[.agg #[.float .f64 c, .float .f64 v, .float .f64 r, .int .i64 E, .int .i64 R, .int .i64 cd, .int .i8 win, .int .i64 can, .int .i8 way, .int .i64 gu, .int .i64 tr, .int .i64 nth, .float .f64 ti, .float .f64 no]] w (SnR w (stE c v r E R cd can way gu tr nth ti no) cd) := by
  obtain ⟨z, hz⟩ : ∃ z, stE c v r E R cd can way gu tr nth ti no = z := ⟨_, rfl⟩
  rw [hz]
  unfold stE at hz
  obtain ⟨z0, hz0⟩ : ∃ z0, checkF (ab c) (ab v) (ab r) E R = z0 := ⟨_, rfl⟩
  obtain ⟨ce, hce⟩ : ∃ ce, codeE cd = ce := ⟨_, rfl⟩
  obtain ⟨nL, hnL⟩ : ∃ nL, (codeL cd).length = nL := ⟨_, rfl⟩
  obtain ⟨b1, hb1⟩ : ∃ b1, canB R can = b1 := ⟨_, rfl⟩
  obtain ⟨b2, hb2⟩ : ∃ b2, levB way gu tr nth = b2 := ⟨_, rfl⟩
  have hfew := code_few cd
  have C36 : Hid (∀ W, Calls Tryz.prog 36 #[.agg #[.float .f64 c, .float .f64 v, .float .f64 r, .int .i64 E, .int .i64 R]] W (IU W z0)) := fun W => hz0 ▸ t36 c v r E R W
  have C11 : Hid (∀ W, Calls Tryz.prog 11 #[.int .i64 cd] W (fun e w' => ∃ p cp d, e = .returned (.tuple #[.slice p nL cp, .int .i64 ce]) ∧ Hid (CRow W.heap.size w' (.slice p nL cp) d) ∧ Hid (Up W w') ∧ Hid (d.map ab2 = codeL cd))) := fun W => by
    have := t11o cd W
    unfold CdR at this
    rwa [hce, hnL] at this
  have C39 : Hid (∀ W, Calls Tryz.prog 39 #[.agg #[.float .f64 c, .float .f64 v, .float .f64 r, .int .i64 E, .int .i64 R, .int .i64 cd, .int .i8 win, .int .i64 can, .int .i8 way, .int .i64 gu, .int .i64 tr, .int .i64 nth, .float .f64 ti, .float .f64 no]] W fun e w' => e = .returned (.bool b1) ∧ Hid (Up W w')) := fun W => hb1 ▸ t39 c v r E R cd win can way gu tr nth ti no W
  have C40 : Hid (∀ W, Calls Tryz.prog 40 #[.agg #[.float .f64 c, .float .f64 v, .float .f64 r, .int .i64 E, .int .i64 R, .int .i64 cd, .int .i8 win, .int .i64 can, .int .i8 way, .int .i64 gu, .int .i64 tr, .int .i64 nth, .float .f64 ti, .float .f64 no]] W fun e w' => e = .returned (.bool b2) ∧ Hid (Up W w')) := fun W => hb2 ▸ t40 c v r E R cd win can way gu tr nth ti no W
  have HS0 : Hid (SB (w.alloc (.cells #[.float .f64 c, .float .f64 v, .float .f64 r, .int .i64 E, .int .i64 R, .int .i64 cd, .int .i8 win, .int .i64 can, .int .i8 way, .int .i64 gu, .int .i64 tr, .int .i64 nth, .float .f64 ti, .float .f64 no] 27)) w.heap.size c v r E R cd win can way gu tr nth ti no) := SB.new w c v r E R cd win can way gu tr nth ti no
  unfold SnR
  rw [hz0, hce, hnL, hb1, hb2] at hz
  rw [hnL] at hfew ⊢
  clear hce hnL hb1 hb2
  by_cases h0 : z0 = 0
  · subst h0
    have hB := check_bounds hz0
    obtain ⟨e1, e2, r1, r2, -⟩ := hB
    obtain ⟨b3, hb3⟩ : ∃ b3, manyB E R nL = b3 := ⟨_, rfl⟩
    have C42 : Hid (∀ W, Calls Tryz.prog 42 #[.agg #[.float .f64 c, .float .f64 v, .float .f64 r, .int .i64 E, .int .i64 R], .int .i64 nL] W fun e w' => e = .returned (.bool b3) ∧ Hid (Up W w')) := fun W => hb3 ▸ t42 c v r ⟨e1, e2⟩ ⟨r1, r2⟩ (by omega) W
    rw [hb3] at hz
    clear hb3 hz0
    by_cases h1 : ce = 0
    · subst h1
      obtain ⟨f1, hf1⟩ : ∃ f1, fin (ab ti) = f1 := ⟨_, rfl⟩
      obtain ⟨f2, hf2⟩ : ∃ f2, fin (ab no) = f2 := ⟨_, rfl⟩
      obtain ⟨g1, hg1⟩ : ∃ g1, ltF (ab ti) (ab 0) = g1 := ⟨_, rfl⟩
      obtain ⟨g2, hg2⟩ : ∃ g2, ltF (ab no) (ab 0) = g2 := ⟨_, rfl⟩
      have C41 : Hid (∀ W, Calls Tryz.prog 41 #[.float .f64 ti] W fun e w' => e = .returned (.bool f1) ∧ w' = W) := fun W => hf1 ▸ t41 ti W
      have C41' : Hid (∀ W, Calls Tryz.prog 41 #[.float .f64 no] W fun e w' => e = .returned (.bool f2) ∧ w' = W) := fun W => hf2 ▸ t41 no W
      rw [hf1, hf2, hg1, hg2] at hz
      clear hf1 hf2
      by_cases q1 : E < (nL : Int)
      · have hz1 : z = 2 := by rw [← hz]; simp [q1]
        subst hz1
        clear hz
        go_enter Tryz.func20, Tryz.ntmps20
        go_wp2_with (first
            | (go_at_call 36; (with_reducible refine (C36.out _).mono ?_); rintro e w1 ⟨rfl, HU1⟩; (have HS1 := SB.up HS0.out HU1.out); (have HS1' : Hid (SB w1 w.heap.size c v r E R cd win can way gu tr nth ti no) := HS1); (obtain ⟨s0, s1, s2, s3, s4, s5, s6, s7, s8, s9, s10, s11, s12, s13⟩ := HS1))
            | (go_at_call 11; (with_reducible refine (C11.out _).mono ?_); rintro e w2 ⟨p, cp, d, rfl, HV, HU2, HD⟩; clear s0 s1 s2 s3 s4 s5 s6 s7 s8 s9 s10 s11 s12 s13; (have HS2 := SB.up HS1'.out HU2.out); (have HS2' : Hid (SB w2 w.heap.size c v r E R cd win can way gu tr nth ti no) := HS2); (obtain ⟨s0, s1, s2, s3, s4, s5, s6, s7, s8, s9, s10, s11, s12, s13⟩ := HS2))
            | (go_at_call 39; (with_reducible refine (C39.out _).mono ?_); rintro e w3 ⟨rfl, HU3⟩; clear s0 s1 s2 s3 s4 s5 s6 s7 s8 s9 s10 s11 s12 s13; (have HS3 := SB.up HS2'.out HU3.out); (have HS3' : Hid (SB w3 w.heap.size c v r E R cd win can way gu tr nth ti no) := HS3); (obtain ⟨s0, s1, s2, s3, s4, s5, s6, s7, s8, s9, s10, s11, s12, s13⟩ := HS3))
            | (go_at_call 40; (with_reducible refine (C40.out _).mono ?_); rintro e w4 ⟨rfl, HU4⟩; clear s0 s1 s2 s3 s4 s5 s6 s7 s8 s9 s10 s11 s12 s13; (have HS4 := SB.up HS3'.out HU4.out); (obtain ⟨s0, s1, s2, s3, s4, s5, s6, s7, s8, s9, s10, s11, s12, s13⟩ := HS4))
            | (go_at_call 41; (with_reducible refine (C41.out _).mono ?_); rintro e w' ⟨rfl, hw⟩; subst w')
            | (go_at_call 41; (with_reducible refine (C41'.out _).mono ?_); rintro e w' ⟨rfl, hw⟩; subst w')
            | (go_at_call 42; (with_reducible refine (C42.out _).mono ?_); rintro e w5 ⟨rfl, HU5⟩))
        go_ret2
        exact Or.inl ⟨by decide, rfl, ((Up.alloc _ _).trans HU1.out).trans HU2.out⟩
      have d1 : decide (E < (nL : Int)) = false := decide_eq_false q1
      rw [d1] at hz
      cases b1
      · have hz1 : z = 2 := by rw [← hz]; rfl
        subst hz1
        clear hz
        go_enter Tryz.func20, Tryz.ntmps20
        go_wp2_with (first
            | (go_at_call 36; (with_reducible refine (C36.out _).mono ?_); rintro e w1 ⟨rfl, HU1⟩; (have HS1 := SB.up HS0.out HU1.out); (have HS1' : Hid (SB w1 w.heap.size c v r E R cd win can way gu tr nth ti no) := HS1); (obtain ⟨s0, s1, s2, s3, s4, s5, s6, s7, s8, s9, s10, s11, s12, s13⟩ := HS1))
            | (go_at_call 11; (with_reducible refine (C11.out _).mono ?_); rintro e w2 ⟨p, cp, d, rfl, HV, HU2, HD⟩; clear s0 s1 s2 s3 s4 s5 s6 s7 s8 s9 s10 s11 s12 s13; (have HS2 := SB.up HS1'.out HU2.out); (have HS2' : Hid (SB w2 w.heap.size c v r E R cd win can way gu tr nth ti no) := HS2); (obtain ⟨s0, s1, s2, s3, s4, s5, s6, s7, s8, s9, s10, s11, s12, s13⟩ := HS2))
            | (go_at_call 39; (with_reducible refine (C39.out _).mono ?_); rintro e w3 ⟨rfl, HU3⟩; clear s0 s1 s2 s3 s4 s5 s6 s7 s8 s9 s10 s11 s12 s13; (have HS3 := SB.up HS2'.out HU3.out); (have HS3' : Hid (SB w3 w.heap.size c v r E R cd win can way gu tr nth ti no) := HS3); (obtain ⟨s0, s1, s2, s3, s4, s5, s6, s7, s8, s9, s10, s11, s12, s13⟩ := HS3))
            | (go_at_call 40; (with_reducible refine (C40.out _).mono ?_); rintro e w4 ⟨rfl, HU4⟩; clear s0 s1 s2 s3 s4 s5 s6 s7 s8 s9 s10 s11 s12 s13; (have HS4 := SB.up HS3'.out HU4.out); (obtain ⟨s0, s1, s2, s3, s4, s5, s6, s7, s8, s9, s10, s11, s12, s13⟩ := HS4))
            | (go_at_call 41; (with_reducible refine (C41.out _).mono ?_); rintro e w' ⟨rfl, hw⟩; subst w')
            | (go_at_call 41; (with_reducible refine (C41'.out _).mono ?_); rintro e w' ⟨rfl, hw⟩; subst w')
            | (go_at_call 42; (with_reducible refine (C42.out _).mono ?_); rintro e w5 ⟨rfl, HU5⟩))
        go_ret2
        exact Or.inl ⟨by decide, rfl, (((Up.alloc _ _).trans HU1.out).trans HU2.out).trans HU3.out⟩
      cases b2
      · have hz1 : z = 2 := by rw [← hz]; rfl
        subst hz1
        clear hz
        go_enter Tryz.func20, Tryz.ntmps20
        go_wp2_with (first
            | (go_at_call 36; (with_reducible refine (C36.out _).mono ?_); rintro e w1 ⟨rfl, HU1⟩; (have HS1 := SB.up HS0.out HU1.out); (have HS1' : Hid (SB w1 w.heap.size c v r E R cd win can way gu tr nth ti no) := HS1); (obtain ⟨s0, s1, s2, s3, s4, s5, s6, s7, s8, s9, s10, s11, s12, s13⟩ := HS1))
            | (go_at_call 11; (with_reducible refine (C11.out _).mono ?_); rintro e w2 ⟨p, cp, d, rfl, HV, HU2, HD⟩; clear s0 s1 s2 s3 s4 s5 s6 s7 s8 s9 s10 s11 s12 s13; (have HS2 := SB.up HS1'.out HU2.out); (have HS2' : Hid (SB w2 w.heap.size c v r E R cd win can way gu tr nth ti no) := HS2); (obtain ⟨s0, s1, s2, s3, s4, s5, s6, s7, s8, s9, s10, s11, s12, s13⟩ := HS2))
            | (go_at_call 39; (with_reducible refine (C39.out _).mono ?_); rintro e w3 ⟨rfl, HU3⟩; clear s0 s1 s2 s3 s4 s5 s6 s7 s8 s9 s10 s11 s12 s13; (have HS3 := SB.up HS2'.out HU3.out); (have HS3' : Hid (SB w3 w.heap.size c v r E R cd win can way gu tr nth ti no) := HS3); (obtain ⟨s0, s1, s2, s3, s4, s5, s6, s7, s8, s9, s10, s11, s12, s13⟩ := HS3))
            | (go_at_call 40; (with_reducible refine (C40.out _).mono ?_); rintro e w4 ⟨rfl, HU4⟩; clear s0 s1 s2 s3 s4 s5 s6 s7 s8 s9 s10 s11 s12 s13; (have HS4 := SB.up HS3'.out HU4.out); (obtain ⟨s0, s1, s2, s3, s4, s5, s6, s7, s8, s9, s10, s11, s12, s13⟩ := HS4))
            | (go_at_call 41; (with_reducible refine (C41.out _).mono ?_); rintro e w' ⟨rfl, hw⟩; subst w')
            | (go_at_call 41; (with_reducible refine (C41'.out _).mono ?_); rintro e w' ⟨rfl, hw⟩; subst w')
            | (go_at_call 42; (with_reducible refine (C42.out _).mono ?_); rintro e w5 ⟨rfl, HU5⟩))
        go_ret2
        exact Or.inl ⟨by decide, rfl, ((((Up.alloc _ _).trans HU1.out).trans HU2.out).trans HU3.out).trans HU4.out⟩
      cases f1
      · have hz1 : z = 6 := by rw [← hz]; rfl
        subst hz1
        clear hz
        go_enter Tryz.func20, Tryz.ntmps20
        go_wp2_with (first
            | (go_at_call 36; (with_reducible refine (C36.out _).mono ?_); rintro e w1 ⟨rfl, HU1⟩; (have HS1 := SB.up HS0.out HU1.out); (have HS1' : Hid (SB w1 w.heap.size c v r E R cd win can way gu tr nth ti no) := HS1); (obtain ⟨s0, s1, s2, s3, s4, s5, s6, s7, s8, s9, s10, s11, s12, s13⟩ := HS1))
            | (go_at_call 11; (with_reducible refine (C11.out _).mono ?_); rintro e w2 ⟨p, cp, d, rfl, HV, HU2, HD⟩; clear s0 s1 s2 s3 s4 s5 s6 s7 s8 s9 s10 s11 s12 s13; (have HS2 := SB.up HS1'.out HU2.out); (have HS2' : Hid (SB w2 w.heap.size c v r E R cd win can way gu tr nth ti no) := HS2); (obtain ⟨s0, s1, s2, s3, s4, s5, s6, s7, s8, s9, s10, s11, s12, s13⟩ := HS2))
            | (go_at_call 39; (with_reducible refine (C39.out _).mono ?_); rintro e w3 ⟨rfl, HU3⟩; clear s0 s1 s2 s3 s4 s5 s6 s7 s8 s9 s10 s11 s12 s13; (have HS3 := SB.up HS2'.out HU3.out); (have HS3' : Hid (SB w3 w.heap.size c v r E R cd win can way gu tr nth ti no) := HS3); (obtain ⟨s0, s1, s2, s3, s4, s5, s6, s7, s8, s9, s10, s11, s12, s13⟩ := HS3))
            | (go_at_call 40; (with_reducible refine (C40.out _).mono ?_); rintro e w4 ⟨rfl, HU4⟩; clear s0 s1 s2 s3 s4 s5 s6 s7 s8 s9 s10 s11 s12 s13; (have HS4 := SB.up HS3'.out HU4.out); (obtain ⟨s0, s1, s2, s3, s4, s5, s6, s7, s8, s9, s10, s11, s12, s13⟩ := HS4))
            | (go_at_call 41; (with_reducible refine (C41.out _).mono ?_); rintro e w' ⟨rfl, hw⟩; subst w')
            | (go_at_call 41; (with_reducible refine (C41'.out _).mono ?_); rintro e w' ⟨rfl, hw⟩; subst w')
            | (go_at_call 42; (with_reducible refine (C42.out _).mono ?_); rintro e w5 ⟨rfl, HU5⟩))
        go_ret2
        exact Or.inl ⟨by decide, rfl, ((((Up.alloc _ _).trans HU1.out).trans HU2.out).trans HU3.out).trans HU4.out⟩
      cases f2
      · have hz1 : z = 6 := by rw [← hz]; rfl
        subst hz1
        clear hz
        go_enter Tryz.func20, Tryz.ntmps20
        go_wp2_with (first
            | (go_at_call 36; (with_reducible refine (C36.out _).mono ?_); rintro e w1 ⟨rfl, HU1⟩; (have HS1 := SB.up HS0.out HU1.out); (have HS1' : Hid (SB w1 w.heap.size c v r E R cd win can way gu tr nth ti no) := HS1); (obtain ⟨s0, s1, s2, s3, s4, s5, s6, s7, s8, s9, s10, s11, s12, s13⟩ := HS1))
            | (go_at_call 11; (with_reducible refine (C11.out _).mono ?_); rintro e w2 ⟨p, cp, d, rfl, HV, HU2, HD⟩; clear s0 s1 s2 s3 s4 s5 s6 s7 s8 s9 s10 s11 s12 s13; (have HS2 := SB.up HS1'.out HU2.out); (have HS2' : Hid (SB w2 w.heap.size c v r E R cd win can way gu tr nth ti no) := HS2); (obtain ⟨s0, s1, s2, s3, s4, s5, s6, s7, s8, s9, s10, s11, s12, s13⟩ := HS2))
            | (go_at_call 39; (with_reducible refine (C39.out _).mono ?_); rintro e w3 ⟨rfl, HU3⟩; clear s0 s1 s2 s3 s4 s5 s6 s7 s8 s9 s10 s11 s12 s13; (have HS3 := SB.up HS2'.out HU3.out); (have HS3' : Hid (SB w3 w.heap.size c v r E R cd win can way gu tr nth ti no) := HS3); (obtain ⟨s0, s1, s2, s3, s4, s5, s6, s7, s8, s9, s10, s11, s12, s13⟩ := HS3))
            | (go_at_call 40; (with_reducible refine (C40.out _).mono ?_); rintro e w4 ⟨rfl, HU4⟩; clear s0 s1 s2 s3 s4 s5 s6 s7 s8 s9 s10 s11 s12 s13; (have HS4 := SB.up HS3'.out HU4.out); (obtain ⟨s0, s1, s2, s3, s4, s5, s6, s7, s8, s9, s10, s11, s12, s13⟩ := HS4))
            | (go_at_call 41; (with_reducible refine (C41.out _).mono ?_); rintro e w' ⟨rfl, hw⟩; subst w')
            | (go_at_call 41; (with_reducible refine (C41'.out _).mono ?_); rintro e w' ⟨rfl, hw⟩; subst w')
            | (go_at_call 42; (with_reducible refine (C42.out _).mono ?_); rintro e w5 ⟨rfl, HU5⟩))
        go_ret2
        exact Or.inl ⟨by decide, rfl, ((((Up.alloc _ _).trans HU1.out).trans HU2.out).trans HU3.out).trans HU4.out⟩
      cases g1
      · cases g2
        · cases b3
          · have hz1 : z = 0 := by rw [← hz]; rfl
            subst hz1
            clear hz
            go_enter Tryz.func20, Tryz.ntmps20
            go_wp2_with (first
                | (go_at_call 36; (with_reducible refine (C36.out _).mono ?_); rintro e w1 ⟨rfl, HU1⟩; (have HS1 := SB.up HS0.out HU1.out); (have HS1' : Hid (SB w1 w.heap.size c v r E R cd win can way gu tr nth ti no) := HS1); (obtain ⟨s0, s1, s2, s3, s4, s5, s6, s7, s8, s9, s10, s11, s12, s13⟩ := HS1))
                | (go_at_call 11; (with_reducible refine (C11.out _).mono ?_); rintro e w2 ⟨p, cp, d, rfl, HV, HU2, HD⟩; clear s0 s1 s2 s3 s4 s5 s6 s7 s8 s9 s10 s11 s12 s13; (have HS2 := SB.up HS1'.out HU2.out); (have HS2' : Hid (SB w2 w.heap.size c v r E R cd win can way gu tr nth ti no) := HS2); (obtain ⟨s0, s1, s2, s3, s4, s5, s6, s7, s8, s9, s10, s11, s12, s13⟩ := HS2))
                | (go_at_call 39; (with_reducible refine (C39.out _).mono ?_); rintro e w3 ⟨rfl, HU3⟩; clear s0 s1 s2 s3 s4 s5 s6 s7 s8 s9 s10 s11 s12 s13; (have HS3 := SB.up HS2'.out HU3.out); (have HS3' : Hid (SB w3 w.heap.size c v r E R cd win can way gu tr nth ti no) := HS3); (obtain ⟨s0, s1, s2, s3, s4, s5, s6, s7, s8, s9, s10, s11, s12, s13⟩ := HS3))
                | (go_at_call 40; (with_reducible refine (C40.out _).mono ?_); rintro e w4 ⟨rfl, HU4⟩; clear s0 s1 s2 s3 s4 s5 s6 s7 s8 s9 s10 s11 s12 s13; (have HS4 := SB.up HS3'.out HU4.out); (obtain ⟨s0, s1, s2, s3, s4, s5, s6, s7, s8, s9, s10, s11, s12, s13⟩ := HS4))
                | (go_at_call 41; (with_reducible refine (C41.out _).mono ?_); rintro e w' ⟨rfl, hw⟩; subst w')
                | (go_at_call 41; (with_reducible refine (C41'.out _).mono ?_); rintro e w' ⟨rfl, hw⟩; subst w')
                | (go_at_call 42; (with_reducible refine (C42.out _).mono ?_); rintro e w5 ⟨rfl, HU5⟩))
            go_ret2
            exact Or.inr ⟨by trivial, p, cp, d, rfl, CRow.down (CRow.up HV.out (HU3.out.trans (HU4.out.trans HU5.out))) ((Up.alloc _ _).trans HU1.out).size, (((((Up.alloc _ _).trans HU1.out).trans HU2.out).trans HU3.out).trans HU4.out).trans HU5.out, HD⟩
          · have hz1 : z = 3 := by rw [← hz]; rfl
            subst hz1
            clear hz
            go_enter Tryz.func20, Tryz.ntmps20
            go_wp2_with (first
                | (go_at_call 36; (with_reducible refine (C36.out _).mono ?_); rintro e w1 ⟨rfl, HU1⟩; (have HS1 := SB.up HS0.out HU1.out); (have HS1' : Hid (SB w1 w.heap.size c v r E R cd win can way gu tr nth ti no) := HS1); (obtain ⟨s0, s1, s2, s3, s4, s5, s6, s7, s8, s9, s10, s11, s12, s13⟩ := HS1))
                | (go_at_call 11; (with_reducible refine (C11.out _).mono ?_); rintro e w2 ⟨p, cp, d, rfl, HV, HU2, HD⟩; clear s0 s1 s2 s3 s4 s5 s6 s7 s8 s9 s10 s11 s12 s13; (have HS2 := SB.up HS1'.out HU2.out); (have HS2' : Hid (SB w2 w.heap.size c v r E R cd win can way gu tr nth ti no) := HS2); (obtain ⟨s0, s1, s2, s3, s4, s5, s6, s7, s8, s9, s10, s11, s12, s13⟩ := HS2))
                | (go_at_call 39; (with_reducible refine (C39.out _).mono ?_); rintro e w3 ⟨rfl, HU3⟩; clear s0 s1 s2 s3 s4 s5 s6 s7 s8 s9 s10 s11 s12 s13; (have HS3 := SB.up HS2'.out HU3.out); (have HS3' : Hid (SB w3 w.heap.size c v r E R cd win can way gu tr nth ti no) := HS3); (obtain ⟨s0, s1, s2, s3, s4, s5, s6, s7, s8, s9, s10, s11, s12, s13⟩ := HS3))
                | (go_at_call 40; (with_reducible refine (C40.out _).mono ?_); rintro e w4 ⟨rfl, HU4⟩; clear s0 s1 s2 s3 s4 s5 s6 s7 s8 s9 s10 s11 s12 s13; (have HS4 := SB.up HS3'.out HU4.out); (obtain ⟨s0, s1, s2, s3, s4, s5, s6, s7, s8, s9, s10, s11, s12, s13⟩ := HS4))
                | (go_at_call 41; (with_reducible refine (C41.out _).mono ?_); rintro e w' ⟨rfl, hw⟩; subst w')
                | (go_at_call 41; (with_reducible refine (C41'.out _).mono ?_); rintro e w' ⟨rfl, hw⟩; subst w')
                | (go_at_call 42; (with_reducible refine (C42.out _).mono ?_); rintro e w5 ⟨rfl, HU5⟩))
            go_ret2
            exact Or.inl ⟨by decide, rfl, (((((Up.alloc _ _).trans HU1.out).trans HU2.out).trans HU3.out).trans HU4.out).trans HU5.out⟩
        · have hz1 : z = 2 := by rw [← hz]; rfl
          subst hz1
          clear hz
          go_enter Tryz.func20, Tryz.ntmps20
          go_wp2_with (first
              | (go_at_call 36; (with_reducible refine (C36.out _).mono ?_); rintro e w1 ⟨rfl, HU1⟩; (have HS1 := SB.up HS0.out HU1.out); (have HS1' : Hid (SB w1 w.heap.size c v r E R cd win can way gu tr nth ti no) := HS1); (obtain ⟨s0, s1, s2, s3, s4, s5, s6, s7, s8, s9, s10, s11, s12, s13⟩ := HS1))
              | (go_at_call 11; (with_reducible refine (C11.out _).mono ?_); rintro e w2 ⟨p, cp, d, rfl, HV, HU2, HD⟩; clear s0 s1 s2 s3 s4 s5 s6 s7 s8 s9 s10 s11 s12 s13; (have HS2 := SB.up HS1'.out HU2.out); (have HS2' : Hid (SB w2 w.heap.size c v r E R cd win can way gu tr nth ti no) := HS2); (obtain ⟨s0, s1, s2, s3, s4, s5, s6, s7, s8, s9, s10, s11, s12, s13⟩ := HS2))
              | (go_at_call 39; (with_reducible refine (C39.out _).mono ?_); rintro e w3 ⟨rfl, HU3⟩; clear s0 s1 s2 s3 s4 s5 s6 s7 s8 s9 s10 s11 s12 s13; (have HS3 := SB.up HS2'.out HU3.out); (have HS3' : Hid (SB w3 w.heap.size c v r E R cd win can way gu tr nth ti no) := HS3); (obtain ⟨s0, s1, s2, s3, s4, s5, s6, s7, s8, s9, s10, s11, s12, s13⟩ := HS3))
              | (go_at_call 40; (with_reducible refine (C40.out _).mono ?_); rintro e w4 ⟨rfl, HU4⟩; clear s0 s1 s2 s3 s4 s5 s6 s7 s8 s9 s10 s11 s12 s13; (have HS4 := SB.up HS3'.out HU4.out); (obtain ⟨s0, s1, s2, s3, s4, s5, s6, s7, s8, s9, s10, s11, s12, s13⟩ := HS4))
              | (go_at_call 41; (with_reducible refine (C41.out _).mono ?_); rintro e w' ⟨rfl, hw⟩; subst w')
              | (go_at_call 41; (with_reducible refine (C41'.out _).mono ?_); rintro e w' ⟨rfl, hw⟩; subst w')
              | (go_at_call 42; (with_reducible refine (C42.out _).mono ?_); rintro e w5 ⟨rfl, HU5⟩))
          go_ret2
          exact Or.inl ⟨by decide, rfl, ((((Up.alloc _ _).trans HU1.out).trans HU2.out).trans HU3.out).trans HU4.out⟩
      · have hz1 : z = 2 := by rw [← hz]; cases g2 <;> rfl
        subst hz1
        clear hz
        go_enter Tryz.func20, Tryz.ntmps20
        go_wp2_with (first
            | (go_at_call 36; (with_reducible refine (C36.out _).mono ?_); rintro e w1 ⟨rfl, HU1⟩; (have HS1 := SB.up HS0.out HU1.out); (have HS1' : Hid (SB w1 w.heap.size c v r E R cd win can way gu tr nth ti no) := HS1); (obtain ⟨s0, s1, s2, s3, s4, s5, s6, s7, s8, s9, s10, s11, s12, s13⟩ := HS1))
            | (go_at_call 11; (with_reducible refine (C11.out _).mono ?_); rintro e w2 ⟨p, cp, d, rfl, HV, HU2, HD⟩; clear s0 s1 s2 s3 s4 s5 s6 s7 s8 s9 s10 s11 s12 s13; (have HS2 := SB.up HS1'.out HU2.out); (have HS2' : Hid (SB w2 w.heap.size c v r E R cd win can way gu tr nth ti no) := HS2); (obtain ⟨s0, s1, s2, s3, s4, s5, s6, s7, s8, s9, s10, s11, s12, s13⟩ := HS2))
            | (go_at_call 39; (with_reducible refine (C39.out _).mono ?_); rintro e w3 ⟨rfl, HU3⟩; clear s0 s1 s2 s3 s4 s5 s6 s7 s8 s9 s10 s11 s12 s13; (have HS3 := SB.up HS2'.out HU3.out); (have HS3' : Hid (SB w3 w.heap.size c v r E R cd win can way gu tr nth ti no) := HS3); (obtain ⟨s0, s1, s2, s3, s4, s5, s6, s7, s8, s9, s10, s11, s12, s13⟩ := HS3))
            | (go_at_call 40; (with_reducible refine (C40.out _).mono ?_); rintro e w4 ⟨rfl, HU4⟩; clear s0 s1 s2 s3 s4 s5 s6 s7 s8 s9 s10 s11 s12 s13; (have HS4 := SB.up HS3'.out HU4.out); (obtain ⟨s0, s1, s2, s3, s4, s5, s6, s7, s8, s9, s10, s11, s12, s13⟩ := HS4))
            | (go_at_call 41; (with_reducible refine (C41.out _).mono ?_); rintro e w' ⟨rfl, hw⟩; subst w')
            | (go_at_call 41; (with_reducible refine (C41'.out _).mono ?_); rintro e w' ⟨rfl, hw⟩; subst w')
            | (go_at_call 42; (with_reducible refine (C42.out _).mono ?_); rintro e w5 ⟨rfl, HU5⟩))
        go_ret2
        exact Or.inl ⟨by decide, rfl, ((((Up.alloc _ _).trans HU1.out).trans HU2.out).trans HU3.out).trans HU4.out⟩
    · have b : (ce == 0) = false := by rw [beq_eq_false_iff_ne]; exact h1
      have b' : (ce != 0) = true := by rw [bne_iff_ne]; exact h1
      have hz1 : z = ce := by rw [← hz]; simp [h1]
      subst hz1
      have HNE : Hid (z ≠ 0) := h1
      clear hz h1 C42
      go_enter Tryz.func20, Tryz.ntmps20
      go_wp2_with (first
    | (go_at_call 36; (with_reducible refine (C36.out _).mono ?_); rintro e w1 ⟨rfl, HU1⟩; (have HS1 := SB.up HS0.out HU1.out); (have HS1' : Hid (SB w1 w.heap.size c v r E R cd win can way gu tr nth ti no) := HS1); (obtain ⟨s0, s1, s2, s3, s4, s5, s6, s7, s8, s9, s10, s11, s12, s13⟩ := HS1))
    | (go_at_call 11; (with_reducible refine (C11.out _).mono ?_); rintro e w2 ⟨p, cp, d, rfl, HV, HU2, HD⟩; clear s0 s1 s2 s3 s4 s5 s6 s7 s8 s9 s10 s11 s12 s13; (have HS2 := SB.up HS1'.out HU2.out); (have HS2' : Hid (SB w2 w.heap.size c v r E R cd win can way gu tr nth ti no) := HS2); (obtain ⟨s0, s1, s2, s3, s4, s5, s6, s7, s8, s9, s10, s11, s12, s13⟩ := HS2))
    | (go_at_call 39; (with_reducible refine (C39.out _).mono ?_); rintro e w3 ⟨rfl, HU3⟩; clear s0 s1 s2 s3 s4 s5 s6 s7 s8 s9 s10 s11 s12 s13; (have HS3 := SB.up HS2'.out HU3.out); (have HS3' : Hid (SB w3 w.heap.size c v r E R cd win can way gu tr nth ti no) := HS3); (obtain ⟨s0, s1, s2, s3, s4, s5, s6, s7, s8, s9, s10, s11, s12, s13⟩ := HS3))
    | (go_at_call 40; (with_reducible refine (C40.out _).mono ?_); rintro e w4 ⟨rfl, HU4⟩; clear s0 s1 s2 s3 s4 s5 s6 s7 s8 s9 s10 s11 s12 s13; (have HS4 := SB.up HS3'.out HU4.out); (obtain ⟨s0, s1, s2, s3, s4, s5, s6, s7, s8, s9, s10, s11, s12, s13⟩ := HS4))
    | (go_at_call 41; (with_reducible refine (C41.out _).mono ?_); rintro e w' ⟨rfl, hw⟩; subst w')
    | (go_at_call 41; (with_reducible refine (C41'.out _).mono ?_); rintro e w' ⟨rfl, hw⟩; subst w'))
      go_ret2
      exact Or.inl ⟨HNE.out, rfl, ((Up.alloc _ _).trans HU1.out).trans HU2.out⟩
  · have b' : (z0 != 0) = true := by rw [bne_iff_ne]; exact h0
    have hz1 : z = z0 := by rw [← hz]; simp [h0]
    subst hz1
    have HNE : Hid (z ≠ 0) := h0
    clear hz h0 hz0
    go_enter Tryz.func20, Tryz.ntmps20
    go_wp2_with (go_at_call 36; (with_reducible refine (C36.out _).mono ?_); rintro e w1 ⟨rfl, HU1⟩)
    go_ret2
    exact Or.inl ⟨HNE.out, rfl, (Up.alloc _ _).trans HU1.out⟩
end Go.Proofs.YtflngnnoibkkoaaGreat

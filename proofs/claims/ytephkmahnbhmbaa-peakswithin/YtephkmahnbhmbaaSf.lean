/- Centre. -/
import Derived.Test.YtephkmahnbhmbaaSe
namespace Go.Proofs.Ytephkmahnbhmbaa
open Go.ChangeShapes Go.WideShapes Go.ChangeAt Go.RowKit Go.Fl Go.Sort
attribute [local go_sem] run_store_float call52 run_neg fold_eq fold_ne fold_lt fold_gt abs_eq
set_option maxRecDepth 20000
abbrev flI (x : Int) : Option Nat := ab (floatOfInt .f64 x)
/-- Above 0 and a number that may be told. -/
def posB (x : Option Nat) : Bool := gtF x (ab 0) && (ltF x (ab 9218868437227405311) || eqF x (ab 9218868437227405311))
def powN (d : Array Spt) (n : Nat) : Option Nat := sumN (fun i => ab (d[i]!).2.2) n
def binSum (d : Array Spt) (tb B : Int) (n : Nat) : Option Nat := sumN (fun i => bin .mul (ab (d[i]!).2.2) (flI (nearF (clI (d[i]!).1 - tb) B))) n
def gateSum (d : Array Spt) (tg : Int) (n : Nat) : Option Nat := sumN (fun i => bin .mul (ab (d[i]!).2.2) (flI (clI (d[i]!).2.1 - tg))) n
def centT (d : Array Spt) (n : Nat) (B tb tg : Int) : Option Nat × Option Nat × Option Nat :=
  if posB (powN d n) then (withF (bin .add (flI tb) (bin .quo (binSum d tb B n) (powN d n))) B, bin .add (flI tg) (bin .quo (gateSum d tg n) (powN d n)), powN d n) else (flI tb, flI tg, powN d n)
/-- The middle of spots. -/
def centF (d : Array Spt) (n : Nat) (bins : Int) : Option Nat × Option Nat × Option Nat :=
  if n = 0 then (ab 0, ab 0, ab 0) else centT d n (min (max bins 0) 1073741824) (clI (d[topF d (n - 1)]!).1) (clI (d[topF d (n - 1)]!).2.1)
/-- What the call leaves. -/
def CR (w : World) (n : Nat) (c : Option Nat × Option Nat × Option Nat) (e : Ending) (w' : World) : Prop := ∃ x y z, e = .returned (.agg #[.float .f64 x, .float .f64 y, .float .f64 z, .int .i64 n]) ∧ Hid (ab x = c.1 ∧ ab y = c.2.1 ∧ ab z = c.2.2) ∧ Hid (Up w w')
theorem eg42 (args : Array Value) (w : World) : (callFunc 42 args).run Try.prog w = .ok (.enter 42 args) w := enters Try.func42 (by kernel_rfl) (by kernel_rfl) _ _
theorem eg43 (args : Array Value) (w : World) : (callFunc 43 args).run Try.prog w = .ok (.enter 43 args) w := enters Try.func43 (by kernel_rfl) (by kernel_rfl) _ _
theorem eg45 (args : Array Value) (w : World) : (callFunc 45 args).run Try.prog w = .ok (.enter 45 args) w := enters Try.func45 (by kernel_rfl) (by kernel_rfl) _ _
theorem t41p {w : World} {p : Option Addr} {n cap : Nat} {d : Array Spt} (h : SpV w p n cap d) (h0 : 0 < n) : Calls Try.prog 41 #[.slice p n cap, .func (.func 42) #[] #[]] w (FU w (powN d n)) :=
  t41 h h0 (fun _ _ w' _ => t42 _ _ _ w') eg42
theorem t41b {w : World} {p : Option Addr} {n cap : Nat} {d : Array Spt} {T N : Nat} {tb B : Int} (h : SpV w p n cap d) (h0 : 0 < n) (ht : w.cell? ⟨T, 0, none⟩ = some (.int .i64 tb)) (hq : w.cell? ⟨N, 0, none⟩ = some (.int .i64 B)) (b0 : 0 ≤ B) (b1 : B ≤ 1073741824) (b2 : -1073741824 ≤ tb) (b3 : tb ≤ 1073741824) :
    Calls Try.prog 41 #[.slice p n cap, .func (.func 43) #[] #[.pointer (some ⟨T, 0, none⟩), .pointer (some ⟨N, 0, none⟩)]] w (FU w (binSum d tb B n)) :=
  t41 h h0 (fun _ _ _ hu => t43 _ _ _ (cell_up ht hu) (cell_up hq hu) b0 b1 b2 b3) eg43
theorem t41g {w : World} {p : Option Addr} {n cap : Nat} {d : Array Spt} {T : Nat} {tg : Int} (h : SpV w p n cap d) (h0 : 0 < n) (ht : w.cell? ⟨T, 1, none⟩ = some (.int .i64 tg)) (b2 : -1073741824 ≤ tg) (b3 : tg ≤ 1073741824) :
    Calls Try.prog 41 #[.slice p n cap, .func (.func 45) #[] #[.pointer (some ⟨T, 0, none⟩)]] w (FU w (gateSum d tg n)) :=
  t41 h h0 (fun _ _ _ hu => t45 _ _ _ (cell_up ht hu) b2 b3) eg45
def row4 (a b c : Nat) (n : Int) : Obj := .cells #[.float .f64 a, .float .f64 b, .float .f64 c, .int .i64 n] 39 (0, 0)
theorem row4_cells {w : World} {g a b c : Nat} {n : Int} (h : w.heap[g]? = some (row4 a b c n)) : (w.cell? ⟨g, 0, none⟩ = some (.float .f64 a) ∧ w.cell? ⟨g, 1, none⟩ = some (.float .f64 b) ∧ w.cell? ⟨g, 2, none⟩ = some (.float .f64 c) ∧ w.cell? ⟨g, 3, none⟩ = some (.int .i64 n)) ∧ (w.frozen? ⟨g, 0, none⟩ = false ∧ w.frozen? ⟨g, 1, none⟩ = false ∧ w.frozen? ⟨g, 2, none⟩ = false ∧ w.frozen? ⟨g, 3, none⟩ = false) := by
  refine ⟨⟨?_, ?_, ?_, ?_⟩, ?_, ?_, ?_, ?_⟩ <;> first | (rw [cell_of_row _ _ _ _ _ _ h]; rfl) | simp [World.frozen?, h, row4]
theorem row4_up {w w' : World} {g a b c : Nat} {n : Int} (h : w.heap[g]? = some (row4 a b c n)) (hu : Up w w') : w'.heap[g]? = some (row4 a b c n) := by
  rw [RowKit.Below.block hu _ (Array.getElem?_eq_some_iff.1 h).1]; exact h
theorem cent_no {d : Array Spt} {n : Nat} {B tb tg : Int} (h : posB (powN d n) = false) : centT d n B tb tg = (flI tb, flI tg, powN d n) := by
  unfold centT; rw [if_neg (by simp [h])]
theorem cent_yes {d : Array Spt} {n : Nat} {B tb tg : Int} (h : posB (powN d n) = true) : centT d n B tb tg = (withF (bin .add (flI tb) (bin .quo (binSum d tb B n) (powN d n))) B, bin .add (flI tg) (bin .quo (gateSum d tg n) (powN d n)), powN d n) := by
  unfold centT; rw [if_pos h]
set_option maxHeartbeats 4000000 in
theorem t18 {w : World} {p : Option Addr} {n cap : Nat} {d : Array Spt} (bins : Int) (h : SpV w p n cap d) : Calls Try.prog 18 #[.slice p n cap, .int .i64 bins] w (CR w n (centF d n bins)) := by
  by_cases h0 : n = 0
  · subst h0
    obtain ⟨-, k2⟩ := two_boxes w #[.int .i64 bins] #[.float .f64 0, .float .f64 0, .float .f64 0, .int .i64 0] 3 39
    go_enter Try.func18, Try.ntmps18
    go_wp2
    exact bodyPost_ret (results_cell_row Try.results18 _ _ _ 39 #[.float .f64 0, .float .f64 0, .float .f64 0, .int .i64 0] (0, 0) _ rfl k2 Try.underlying39 rfl (by kernel_rfl)) rfl ⟨0, 0, 0, rfl, ⟨rfl, rfl, rfl⟩, (Up.alloc _ _).trans (Up.alloc _ _)⟩
  · have h0 : 0 < n := by omega
    have q0 : ((n : Int) == 0) = false := by rw [beq_eq_false_iff_ne]; omega
    have ecF : centF d n bins = centT d n (min (max bins 0) 1073741824) (clI (d[topF d (n - 1)]!).1) (clI (d[topF d (n - 1)]!).2.1) := by unfold centF; rw [if_neg (by omega)]
    rw [ecF]
    clear ecF
    obtain ⟨B, hB⟩ : ∃ B, min (max bins 0) 1073741824 = B := ⟨_, rfl⟩
    have b0 : 0 ≤ B := by omega
    have b1 : B ≤ 1073741824 := by omega
    obtain ⟨t, ht⟩ : ∃ t, d[topF d (n - 1)]! = t := ⟨_, rfl⟩
    rw [ht]
    obtain ⟨t1, t2, t3⟩ := t
    simp only
    have HSV : Hid (SpV w p n cap d) := h
    obtain ⟨k1, k2⟩ := two_boxes w #[.int .i64 B] #[.float .f64 0, .float .f64 0, .float .f64 0, .int .i64 0] 3 39
    have HW0 : Hid (Up w ((w.alloc (.cells #[.int .i64 B] 3)).alloc (.cells #[.float .f64 0, .float .f64 0, .float .f64 0, .int .i64 0] 39))) := (Up.alloc _ _).trans (Up.alloc _ _)
    have HBX : Hid (((w.alloc (.cells #[.int .i64 B] 3)).alloc (.cells #[.float .f64 0, .float .f64 0, .float .f64 0, .int .i64 0] 39)).cell? ⟨w.heap.size, 0, none⟩ = some (.int .i64 B)) := by
      show _ = _; rw [cell_of_row _ _ _ _ _ _ k1]; rfl
    have HRX : Hid (((w.alloc (.cells #[.int .i64 B] 3)).alloc (.cells #[.float .f64 0, .float .f64 0, .float .f64 0, .int .i64 0] 39)).heap[w.heap.size + 1]? = some (row4 0 0 0 0)) := k2
    have C40 : Hid (Calls Try.prog 40 #[.slice p n cap] ((w.alloc (.cells #[.int .i64 B] 3)).alloc (.cells #[.float .f64 0, .float .f64 0, .float .f64 0, .int .i64 0] 39)) fun e w' => e = .returned (.agg #[.int .i64 t1, .int .i64 t2, .float .f64 t3]) ∧ Hid (Up ((w.alloc (.cells #[.int .i64 B] 3)).alloc (.cells #[.float .f64 0, .float .f64 0, .float .f64 0, .int .i64 0] 39)) w')) := by
      have := t40 (h.up HW0.out) h0
      rw [ht] at this; exact this
    have C39 : Hid (∀ w, Calls Try.prog 39 #[.agg #[.int .i64 t1, .int .i64 t2, .float .f64 t3]] w (VU w (.agg #[.int .i64 (clI t1), .int .i64 (clI t2)]))) := fun w => t39 _ _ _ w
    obtain ⟨c1, c2⟩ := clI_in t1
    obtain ⟨c3, c4⟩ := clI_in t2
    have HN : Hid (((w.alloc (.cells #[.int .i64 B] 3)).alloc (.cells #[.float .f64 0, .float .f64 0, .float .f64 0, .int .i64 0] 39)).heap.size = w.heap.size + 2) := by show _ = _; simp
    clear h ht k1 k2
    generalize clI t1 = tb at *
    generalize clI t2 = tg at *
    rw [hB]
    have FIN : Hid (∀ (wr : World) (x y z : Nat) (tmps : Array Value), wr.heap[w.heap.size + 1]? = some (row4 0 0 0 0) → Up w wr → tmps.getD 4 undef = .pointer (some ⟨w.heap.size + 1, 0, none⟩) → ab x = (centT d n B tb tg).1 → ab y = (centT d n B tb tg).2.1 → ab z = (centT d n B tb tg).2.2 → bodyPost Try.prog Try.f18 (CR w n (centT d n B tb tg)) Exit.ret { tmps := tmps, defers := [] } (wr.setCells (w.heap.size + 1) 0 [.float .f64 x, .float .f64 y, .float .f64 z, .int .i64 n])) := by
      intro wr x y z tmps hrow hup htm hx hy hz
      have hk : Kp (fun k => k ≠ w.heap.size + 1) wr (wr.setCells (w.heap.size + 1) 0 [.float .f64 x, .float .f64 y, .float .f64 z, .int .i64 n]) := kp_setCells (by simp) _ _ _
      exact bodyPost_ret (results_cell_row Try.results18 _ _ _ 39 #[.float .f64 x, .float .f64 y, .float .f64 z, .int .i64 n] (0, 0) _ htm (row_setCells _ 0 wr _ hrow) Try.underlying39 rfl (by kernel_rfl)) rfl ⟨x, y, z, rfl, ⟨hx, hy, hz⟩, hup.trans2 hk (fun k hk => by omega)⟩
    go_enter Try.func18, Try.ntmps18
    go_wp2_with (first
      | (go_at_call 40; (with_reducible refine C40.out.mono ?_); rintro e w1 ⟨rfl, HU1⟩)
      | (go_at_call 39; (with_reducible refine (C39.out _).mono ?_); rintro e w2 ⟨rfl, HG2⟩;
         (have HU3 : Hid (Up w (w2.alloc (.cells #[.int .i64 tb, .int .i64 tg] 57))) := ((HW0.out.trans HU1.out).trans HG2.out.up).trans (Up.alloc _ _));
         (have C41 : Hid (Calls Try.prog 41 #[.slice p n cap, .func (.func 42) #[] #[]] (w2.alloc (.cells #[.int .i64 tb, .int .i64 tg] 57)) (FU (w2.alloc (.cells #[.int .i64 tb, .int .i64 tg] 57)) (powN d n))) := t41p (HSV.out.up HU3.out) h0))
      | ((fail_if_success have := HRA); go_at_call 41; (with_reducible refine C41.out.mono ?_); rintro e w4 ⟨ra, rfl, HRA, HU4⟩; clear C41;
         (have HU5 : Hid (Up w (w4.alloc (row4 (floatOfInt .f64 tb) (floatOfInt .f64 tg) ra n))) := (HU3.out.trans HU4.out).trans (Up.alloc _ _));
         (have HR5 : Hid ((w4.alloc (row4 (floatOfInt .f64 tb) (floatOfInt .f64 tg) ra n)).heap[w.heap.size + 1]? = some (row4 0 0 0 0)) := row4_up HRX.out (HU1.out.trans (HG2.out.up.trans ((Up.alloc _ _).trans (HU4.out.trans (Up.alloc _ _))))));
         (have HM5 : Hid ((w4.alloc (row4 (floatOfInt .f64 tb) (floatOfInt .f64 tg) ra n)).heap[w4.heap.size]? = some (row4 (floatOfInt .f64 tb) (floatOfInt .f64 tg) ra n)) := heap_alloc_last _ _);
         (have HT5 : Hid ((w4.alloc (row4 (floatOfInt .f64 tb) (floatOfInt .f64 tg) ra n)).cell? ⟨w2.heap.size, 0, none⟩ = some (.int .i64 tb) ∧ (w4.alloc (row4 (floatOfInt .f64 tb) (floatOfInt .f64 tg) ra n)).cell? ⟨w2.heap.size, 1, none⟩ = some (.int .i64 tg) ∧ (w4.alloc (row4 (floatOfInt .f64 tb) (floatOfInt .f64 tg) ra n)).cell? ⟨w.heap.size, 0, none⟩ = some (.int .i64 B)) := ⟨cell_up (two_cells w2 (.int .i64 tb) (.int .i64 tg) 57).1 (HU4.out.trans (Up.alloc _ _)), cell_up (two_cells w2 (.int .i64 tb) (.int .i64 tg) 57).2 (HU4.out.trans (Up.alloc _ _)), cell_up HBX.out (HU1.out.trans (HG2.out.up.trans ((Up.alloc _ _).trans (HU4.out.trans (Up.alloc _ _)))))⟩);
         (have x0 := cell_up (two_cells w2 (.int .i64 tb) (.int .i64 tg) 57).1 HU4.out); (have x1 := cell_up (two_cells w2 (.int .i64 tb) (.int .i64 tg) 57).2 HU4.out);
         (obtain ⟨⟨r0, r1, r2, r3⟩, f0, f1, f2, f3⟩ := row4_cells HR5.out);
         (obtain ⟨⟨m0, m1, m2, m3⟩, g0, g1, g2, g3⟩ := row4_cells HM5.out);
         simp only [row4] at r0 r1 r2 r3 f0 f1 f2 f3 m0 m1 m2 m3 g0 g1 g2 g3 HU5 HR5 HM5 HT5;
         (have C43 : Hid (Calls Try.prog 41 #[.slice p n cap, .func (.func 43) #[] #[.pointer (some ⟨w2.heap.size, 0, none⟩), .pointer (some ⟨w.heap.size, 0, none⟩)]] (w4.alloc (.cells #[.float .f64 (floatOfInt .f64 tb), .float .f64 (floatOfInt .f64 tg), .float .f64 ra, .int .i64 n] 39)) (FU (w4.alloc (.cells #[.float .f64 (floatOfInt .f64 tb), .float .f64 (floatOfInt .f64 tg), .float .f64 ra, .int .i64 n] 39)) (binSum d tb B n))) := t41b (HSV.out.up HU5.out) h0 HT5.out.1 HT5.out.2.2 b0 b1 c1 c2)))
    · have hp : posB (powN d n) = false := by rw [← HRA.out]; simp_all [posB]
      have hc := cent_no (B := B) (tb := tb) (tg := tg) hp
      refine FIN.out (w4.alloc (.cells #[.float .f64 (floatOfInt .f64 tb), .float .f64 (floatOfInt .f64 tg), .float .f64 ra, .int .i64 n] 39)) (floatOfInt .f64 tb) (floatOfInt .f64 tg) ra _ HR5.out HU5.out ?_ ?_ ?_ ?_
      · rfl
      · rw [hc]
      · rw [hc]
      · rw [hc]; exact HRA.out
    · have hp : posB (powN d n) = true := by rw [← HRA.out]; simp_all [posB]
      have hc := cent_yes (B := B) (tb := tb) (tg := tg) hp
      have HC : Hid _ := hc
      clear hp hc r0 r1 r2 r3 f0 f1 f2 f3 m0 m1 m2 m3 g0 g1 g2 g3 x0 x1
      with_reducible refine C43.out.mono ?_
      rintro e w6 ⟨rb, rfl, HRB, HU6⟩
      clear C43
      have HU6w : Hid (Up w w6) := HU5.out.trans HU6.out
      have C45 : Hid (Calls Try.prog 41 #[.slice p n cap, .func (.func 45) #[] #[.pointer (some ⟨w2.heap.size, 0, none⟩)]] w6 (FU w6 (gateSum d tg n))) := t41g (HSV.out.up HU6w.out) h0 (cell_up HT5.out.2.1 HU6.out) c3 c4
      go_wp2_with fail
      with_reducible refine C45.out.mono ?_
      rintro e w7 ⟨rg, rfl, HRG, HU7⟩
      clear C45
      have HU7w : Hid (Up w w7) := HU6w.out.trans HU7.out
      have HR7 : Hid (w7.heap[w.heap.size + 1]? = some (row4 0 0 0 0)) := row4_up HR5.out (HU6.out.trans HU7.out)
      have HM7 : Hid (w7.heap[w4.heap.size]? = some (row4 (floatOfInt .f64 tb) (floatOfInt .f64 tg) ra n)) := row4_up HM5.out (HU6.out.trans HU7.out)
      have hbx : w7.cell? ⟨w.heap.size, 0, none⟩ = some (.int .i64 B) := cell_up HT5.out.2.2 (HU6.out.trans HU7.out)
      have HMN : Hid (w.heap.size + 1 < w4.heap.size) := by
        have e1 := HN.out
        have e2 := RowKit.Below.size HU1.out
        have e3 := RowKit.Below.size HG2.out.up
        have e4 := RowKit.Below.size HU4.out
        simp at e4
        show _ < _
        omega
      clear HU5 HR5 HM5 HT5 HU6w HU6 HU7 C39 C40 HW0 HBX HRX HU1 HG2 HU3 HU4 HN
      generalize hM : w4.heap.size = M at *
      generalize w2.heap.size = T at *
      obtain ⟨⟨r0, r1, r2, r3⟩, f0, f1, f2, f3⟩ := row4_cells HR7.out
      obtain ⟨⟨m0, m1, m2, m3⟩, g0, g1, g2, g3⟩ := row4_cells HM7.out
      have hn1 : ¬ w.heap.size + 1 = M := by have := HMN.out; omega
      have hn2 : ¬ M = w.heap.size + 1 := by have := HMN.out; omega
      go_wp2_with (first
        | (go_at_call 46; (with_reducible refine (t46 _ _ _ b0 b1).mono ?_); rintro e w8 ⟨rx, kx, rfl, hw, HX⟩; subst w8)
        | ((with_reducible refine upon_fl (by simp) ?_); intro r3 k3 hr3))
      rename_i q1 j1 hq1 q2 j2 hq2 q3 j3 hq3
      have hk : Kp (fun k => k ≠ M) w7 ((((w7.drewN (j1 + j2 + kx)).setCell ⟨M, 0, none⟩ (.float .f64 rx)).drewN (j3 + k3)).setCell ⟨M, 1, none⟩ (.float .f64 r3)) := (((Kp.of_up (Up.drewN _ _)).trans (Kp.setCell _ _ _ _ (by simp))).trans (Kp.of_up (Up.drewN _ _))).trans (Kp.setCell _ _ _ _ (by simp))
      refine FIN.out ((((w7.drewN (j1 + j2 + kx)).setCell ⟨M, 0, none⟩ (.float .f64 rx)).drewN (j3 + k3)).setCell ⟨M, 1, none⟩ (.float .f64 r3)) rx r3 ra _ ?_ ?_ ?_ ?_ ?_ ?_
      · rw [hk.block _ hn1 (Array.getElem?_eq_some_iff.1 HR7.out).1]; exact HR7.out
      · exact HU7w.out.trans2 hk (fun k hk => by have := HMN.out; omega)
      · rfl
      · rw [HC.out, HX.out, hq2.out, hq1.out, HRB.out, HRA.out]
      · rw [HC.out, hr3.out, hq3.out, HRG.out, HRA.out]
      · rw [HC.out]; exact HRA.out
    · have hp : posB (powN d n) = false := by rw [← HRA.out]; simp_all [posB]
      have hc := cent_no (B := B) (tb := tb) (tg := tg) hp
      refine FIN.out (w4.alloc (.cells #[.float .f64 (floatOfInt .f64 tb), .float .f64 (floatOfInt .f64 tg), .float .f64 ra, .int .i64 n] 39)) (floatOfInt .f64 tb) (floatOfInt .f64 tg) ra _ HR5.out HU5.out ?_ ?_ ?_ ?_
      · rfl
      · rw [hc]
      · rw [hc]
      · rw [hc]; exact HRA.out
end Go.Proofs.Ytephkmahnbhmbaa

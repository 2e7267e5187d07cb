/- StillSettles: the walk. -/
import Derived.Test.YtgalgnopjcpocaaHb
import Derived.Test.YtgalgnopjcpocaaFd
namespace Go.Proofs.Ytgalgnopjcpocaa
open Go.ChangeShapes Go.WideShapes Go.ChangeAt Go.RowKit Go.Fl Ieee
attribute [local go_sem] run_store_float run_store_c isSome_set call20 call33 run_neg fold_eq fold_ne fold_lt fold_gt abs_eq

/-- A map that is fed one row again and again. -/
structure Z3 (w W wr : World) (M2 L2 n1 s g2 c2 : Nat) (fed : Bool) (d row : List Nat) : Prop where
  mp : MP w.heap.size wr M2 L2 n1 s fed d
  own : FO W.heap.size wr (.slice (some ⟨g2, 0, none⟩) n1 c2) row
  ok : fed = true → ∀ i, i < n1 → Fnt d[i]! ∧ val d[i]! = val row[i]!
  lt : M2 < W.heap.size ∧ L2 < W.heap.size
  up : Up w wr
theorem Z3.next {w W wr w' : World} {M2 L2 n1 s g2 c2 : Nat} {fed : Bool} {d row : List Nat} {d' ov : List Nat} (h : Z3 w W wr M2 L2 n1 s g2 c2 fed d row) (fs : Fnt s) (s0 : 0 ≤ val s) (s1 : val s ≤ 1) (hr : ∀ i, i < n1 → Fnt row[i]! ∧ val row[i]! ≤ pw 900 ∧ -pw 900 ≤ val row[i]!)
    (hm : MP w.heap.size w' M2 L2 n1 s true d') (ht : Two M2 L2 wr w') (ho : ∀ i, i < n1 → ab ov[i]! = overF fed (fun i => ab d[i]!) (fun i => row[i]!) i) (hd : ∀ i, i < n1 → ab d'[i]! = nextF (ab s) fed (fun i => ab d[i]!) (fun i => row[i]!) i) :
    Z3 w W w' M2 L2 n1 s g2 c2 true d' row ∧ ∀ i, i < n1 → eqF (ab ov[i]!) (ab 0) = true := by
  obtain ⟨E, hE⟩ := Err.ex (M := pw 900) (Rat.le_of_lt (pw_pos 900)) Rat.le_refl
  have e0 := hE.pos
  have key : ∀ i, i < n1 → ∃ dd p r, StepOK s row[i]! (if fed then d[i]! else row[i]!) E dd p r ∧ baseF fed (fun i => ab d[i]!) (fun i => row[i]!) i = some (if fed then d[i]! else row[i]!) ∧ val (if fed then d[i]! else row[i]!) = val row[i]! := by
    intro i hi
    obtain ⟨r1, r2, r3⟩ := hr i hi
    have hL : Fnt (if fed then d[i]! else row[i]!) ∧ val (if fed then d[i]! else row[i]!) = val row[i]! := by
      cases fed with
      | false => exact ⟨r1, rfl⟩
      | true => exact h.ok rfl i hi
    obtain ⟨dd, p, r, st⟩ := step_ok hE fs s0 s1 r1 r2 r3 hL.1 (by rw [hL.2]; grind) (by rw [hL.2]; grind)
    refine ⟨dd, p, r, st, ?_, hL.2⟩
    unfold baseF
    cases fed with
    | false => exact Fnt.ab r1
    | true => exact Fnt.ab hL.1
  have q1 := h.mp.lo
  have q2 := h.mp.lt2.1
  have q3 := (OR.at_ h.own).1
  have q4 := h.lt
  refine ⟨⟨hm, OR.two h.own ht (by simp [Value.ownBlock]; omega) (by simp [Value.ownBlock]; omega), fun _ i hi => ?_, h.lt, ht.up h.up q1 q2⟩, fun i hi => ?_⟩
  · obtain ⟨dd, p, r, st, hb, hv⟩ := key i hi
    have nx := (next_of (i := i) (f := fun i => row[i]!) st fs (hr i hi).1 hb rfl).2
    rw [← hd i hi] at nx
    rw [of_ab nx]
    exact ⟨st.fr, (st.same hv).2⟩
  · obtain ⟨dd, p, r, st, hb, hv⟩ := key i hi
    have nx := (next_of (i := i) (f := fun i => row[i]!) st fs (hr i hi).1 hb rfl).1
    rw [← ho i hi] at nx
    rw [of_ab nx, eqF_val st.fd f0.1, (st.same hv).1, f0.2]
    simp
/-- The first loop's state. -/
def L7 (f : Nat → Nat) (mw i : Nat) : Prop := Fnt mw ∧ 0 ≤ val mw ∧ val mw ≤ pw 900 ∧ ∀ j, j < i → Fnt (f j) ∧ val (f j) ≤ val mw ∧ -val mw ≤ val (f j)
theorem L7.next {f : Nat → Nat} {mw i : Nat} (h : L7 f mw i) (hx : Fnt (f i) ∧ val (f i) ≤ pw 900 ∧ -pw 900 ≤ val (f i)) : ∃ r, (∀ (ts : Array TypeId) (t : TypeId) (w : World), (Builtin.max_ ts t #[.float .f64 mw, .float .f64 (Go.Fl.abs (f i))]).run Try.prog w = .ok (.float .f64 r) w) ∧ L7 f r (i + 1) := by
  obtain ⟨h1, h2, h3, h4⟩ := h
  obtain ⟨x1, x2, x3⟩ := hx
  obtain ⟨r, m1, m2, m3, m4, m5⟩ := max_run (P := Try.prog) h1 (fin_abs x1)
  have va := vabs (f i)
  unfold absR at va
  have hab : val (f i) ≤ val (Go.Fl.abs (f i)) ∧ -val (Go.Fl.abs (f i)) ≤ val (f i) ∧ val (Go.Fl.abs (f i)) ≤ pw 900 := by
    rw [va]; split <;> grind
  refine ⟨r, m1, m2, by grind, by rcases m5 with q | q <;> grind, fun j hj => ?_⟩
  by_cases e : j = i
  · subst e; exact ⟨x1, by grind, by grind⟩
  · obtain ⟨k1, k2, k3⟩ := h4 j (by omega)
    exact ⟨k1, by grind, by grind⟩
/-- The second loop's. -/
structure K7 (w wr : World) (M L s mw : Nat) (E : Rat) (i lo hi : Nat) : Prop where
  up : Up w wr
  st : (i = 0 ∧ ∃ d, MP w.heap.size wr M L 1 s false d) ∨ (0 < i ∧ ∃ d, MP w.heap.size wr M L 1 s true d ∧ IV (val mw) E lo hi d[0]!)
theorem L7.zero (f : Nat → Nat) : L7 f 0 0 := ⟨f0.1, by rw [f0.2]; exact Rat.le_refl, by rw [f0.2]; exact Rat.le_of_lt (pw_pos 900), fun j hj => by omega⟩
theorem run_fl7 {P : Program} (op : BinOp) (t : TypeId) {x y r : Nat} (w : World) (h : bin op (ab x) (ab y) = some r) : (binOp op t (.float .f64 x) (.float .f64 y)).run P w = .ok (.float .f64 r) w :=
  run_float_arith w op t .f64 x y r (by rw [bits_ab]; exact h)
set_option maxRecDepth 20000 in
set_option maxHeartbeats 8000000 in
theorem t7 {w : World} {s : Nat} {p : Option Addr} {n c : Nat} {f : Nat → Nat} (hv : VF w p n f) (hc : n ≤ c) (hn : n ≤ 17592186044416) : Calls Try.prog 7 #[.float .f64 s, .slice p n c] w (YS w) := by
  have HV : Hid (VF w p n f) := hv
  have z0 : (n : Int) ≤ 17592186044416 := by omega
  have z1 : (n : Int) ≤ (c : Int) := by omega
  clear hv
  cases hs : shareF (ab s)
  · have HE : Hid (newE 1 (ab s) = 2) := by show _ = _; simp [newE, hs]
    have hq := share_not hs
    rw [shareF] at hs
    cases hA : (gtF (ab s) (ab 0) || eqF (ab s) (ab 0))
    · have hA2 := hA
      rw [Bool.or_eq_false_iff] at hA2
      obtain ⟨g2, g3⟩ := hA2
      clear hs
      go_enter Try.func7, Try.ntmps7
      go_wp2_with (first
        | (go_at_call 12; (with_reducible refine (t12e _ HE.out (by decide)).mono ?_); rintro e w1 ⟨rfl, hw1⟩; subst w1)
        | (go_at_call 11; (with_reducible refine (t11 _).mono ?_); rintro e w5 ⟨rfl, U5⟩))
      go_ret
      exact ⟨rfl, U5⟩
    · rw [hA, Bool.true_and] at hs
      have hB2 := hs
      rw [Bool.or_eq_false_iff] at hB2
      obtain ⟨g2, g3⟩ := hB2
      have hA2 := hA
      rw [Bool.or_eq_true] at hA2
      go_enter Try.func7, Try.ntmps7
      go_wp2_with (first
        | (go_at_call 12; (with_reducible refine (t12e _ HE.out (by decide)).mono ?_); rintro e w1 ⟨rfl, hw1⟩; subst w1)
        | (go_at_call 11; (with_reducible refine (t11 _).mono ?_); rintro e w5 ⟨rfl, U5⟩))
      go_ret
      exact ⟨rfl, U5⟩
  · have HSH : Hid (shareF (ab s) = true) := hs
    have HSV : Hid (Fnt s ∧ 0 ≤ val s ∧ val s ≤ 1) := share_val hs
    clear hs
    go_enter Try.func7, Try.ntmps7
    go_wp2_with (go_at_call 12; (refine (t12 1 s w (by omega) (by omega) HSH.out).mono ?_); rintro e w1 ⟨M, L, rfl, HM, U1⟩)
    go_loopw [7, 8] (fun v7 vi wr => ∃ (i mw : Nat), i ≤ n ∧ i ≤ 200 ∧ vi = .int .i64 i ∧ v7 = .float .f64 mw ∧ Hid (L7 f mw i) ∧ wr = w1) (fun _ vi _ => 200 - (intOf vi).toNat)
    case atStart => exact ⟨0, 0, by omega, by omega, rfl, rfl, L7.zero f, rfl⟩
    case round =>
      obtain ⟨i, mw, hi, hi2, rfl, rfl, HL7, hw⟩ := hrel
      subst wr
      by_cases hci : i < n ∧ i < 200
      · obtain ⟨c1, c2⟩ := hci
        obtain ⟨pb, po, hp, hr⟩ := HV.out (by omega)
        subst hp
        have cx := cell_up (hr i c1) U1.out
        obtain ⟨x, hx⟩ : ∃ x, f i = x := ⟨_, rfl⟩
        rw [hx] at cx
        have y1 : (i : Int) < (n : Int) := by omega
        have y2 : (i : Int) < 200 := by omega
        have y3 : (0 : Int) ≤ (i : Int) := by omega
        clear hr
        cases hle : (ltF (ab (Go.Fl.abs x)) (ab 8660422083433463808) || eqF (ab (Go.Fl.abs x)) (ab 8660422083433463808))
        · have hle2 := hle
          rw [Bool.or_eq_false_iff] at hle2
          obtain ⟨g2, g3⟩ := hle2
          go_wp2_with (first
            | (go_at_call 23; (with_reducible refine (t23 _ _).mono ?_); rintro e w6 ⟨rfl, hw6⟩; subst w6)
            | (go_at_call 11; (with_reducible refine (t11 _).mono ?_); rintro e w5 ⟨rfl, U5⟩))
          go_ret
          exact ⟨rfl, U1.out.trans U5.out⟩
        · obtain ⟨m', F1, hl⟩ := HL7.out.next (by rw [hx]; exact le900 hle)
          have HL8 : Hid (L7 f m' (i + 1)) := hl
          rw [hx] at F1
          have hle2 := hle
          rw [Bool.or_eq_true] at hle2
          clear hl hx
          go_wp2_with (go_at_call 23; (with_reducible refine (t23 _ _).mono ?_); rintro e w6 ⟨rfl, hw6⟩; subst w6)
          go_roundw
          case rel => exact ⟨i + 1, m', by omega, by omega, by go_num, rfl, HL8, trivial⟩
          case measure => simp [intOf]; omega
      · obtain ⟨E, hE⟩ := Err.ex (M := val mw) HL7.out.2.1 HL7.out.2.2.1
        have HE : Hid (Err (val mw) E) := hE
        have HK0 : Hid (K7 w w1 M L s mw E 0 0 0) := ⟨U1.out, Or.inl ⟨rfl, _, HM.out⟩⟩
        clear hE HM
        by_cases hcase : n ≤ 200
        · have hA1 : i = n := by omega
          have e1 : ¬ (i : Int) < (n : Int) := by omega
          obtain ⟨m, hm1⟩ : ∃ m, m = i := ⟨_, rfl⟩
          have HL9 : Hid (L7 f mw m) := by rw [hm1]; exact HL7
          have hm2 : m = n := by omega
          have HMM : Hid (m = n) := hm2
          clear hm1 hm2 hi hi2 HL7 hci
          go_wp2
          go_loopw [9, 10, 11] (fun v9 v10 vi wr => ∃ (i lo hi : Nat), i ≤ n ∧ i ≤ 200 ∧ vi = .int .i64 i ∧ v9 = .float .f64 lo ∧ v10 = .float .f64 hi ∧ Hid (K7 w wr M L s mw E i lo hi)) (fun _ _ vi _ => 200 - (intOf vi).toNat)
          case atStart => exact ⟨0, 0, 0, by omega, by omega, rfl, rfl, rfl, HK0⟩
          case round =>
            clear HK0 e1
            obtain ⟨i, lo, hi, hi1, hi2, rfl, rfl, rfl, HK⟩ := hrel
            by_cases hci : i < n ∧ i < 200
            · obtain ⟨c1, c2⟩ := hci
              obtain ⟨pb, po, hp, hr⟩ := HV.out (by omega)
              subst hp
              have cx := cell_up (hr i c1) HK.out.up
              have cz := cell_up (hr 0 (by omega)) HK.out.up
              rw [Nat.add_zero] at cz
              have HPB : Hid (pb < w.heap.size) := World.block_lt_of_cell? w _ (hr i c1)
              obtain ⟨x, hx⟩ : ∃ x, f i = x := ⟨_, rfl⟩
              have HFX : Hid (Fnt x ∧ val x ≤ val mw ∧ -val mw ≤ val x) := by rw [← hx]; exact HL9.out.2.2.2 i (by have := HMM.out; omega)
              have HL7 : Hid (L7 f mw m) := HL9
              rw [hx] at cx
              have y1 : (i : Int) < (n : Int) := by omega
              have y2 : (i : Int) < 200 := by omega
              have y3 : (0 : Int) ≤ (i : Int) := by omega
              have y4 : (0 : Int) < (n : Int) := by omega
              have y5 : ¬ c = i := by omega
              have y6 : ¬ c - i = 0 := by omega
              have y7 : (i : Int) + 1 ≤ (c : Int) := by omega
              clear hr
              by_cases h00 : i = 0
              · rw [show f 0 = x by rw [← h00]; exact hx] at cz
                clear hx
                have hib : ((i : Int) == 0) = true := by simp; omega
                obtain ⟨d, hmp⟩ : ∃ d, MP w.heap.size wr M L 1 s false d := by
                  rcases HK.out.st with ⟨_, q⟩ | ⟨q, _⟩
                  · exact q
                  · omega
                have HIV : Hid (IV (val mw) E x x x) := IV.start HE.out HFX.out.1 HFX.out.2.1 HFX.out.2.2
                clear h00
                have hiv2 := HIV.out
                obtain ⟨dd, r, lo', hi', c7, o7, a7, b7, R7⟩ := round7 (i := i) HE.out HL7.out.1 (by omega) HSV.out.1 HSV.out.2.1 HSV.out.2.2 HFX.out.1 HFX.out.2.1 HFX.out.2.2 HIV.out
                have HNX : Hid (nextF (ab s) false (fun i => ab d[i]!) (fun _ => x) 0 = some r) := by
                  obtain ⟨p, st⟩ := R7.st
                  exact (next_of st HSV.out.1 HFX.out.1 (by exact Fnt.ab HFX.out.1) rfl).2
                have H15 : Hid (Calls Try.prog 15 #[.pointer (some ⟨M, 0, none⟩), .slice (some ⟨pb, po + i, none⟩) 1 (c - i)] wr (FE w.heap.size wr M L 1 s false (fun i => ab d[i]!) (fun _ => x))) := feed15 hmp (fun i hi => rfl) (fun j hj => by
                  obtain rfl : j = 0 := by omega
                  exact cx) (by omega) (by omega) (by have := HPB.out; have := hmp.lo; omega) (by have := HPB.out; have := hmp.lt2.1; omega)
                obtain ⟨F1, F2⟩ : (∀ (ts : Array TypeId) (t : TypeId) (w : World), (Builtin.min_ ts t #[.float .f64 x, .float .f64 x]).run Try.prog w = .ok (.float .f64 lo') w) ∧ (∀ (ts : Array TypeId) (t : TypeId) (w : World), (Builtin.max_ ts t #[.float .f64 x, .float .f64 x]).run Try.prog w = .ok (.float .f64 hi') w) := ⟨R7.mn, R7.mx⟩
                obtain ⟨kf, hkf⟩ : ∃ kf, floatOfInt .f64 ((i : Int) + 1) = kf := ⟨_, rfl⟩
                have F3 : ∀ w : World, (binOp .mul 26 (.float .f64 4382002437431492608) (.float .f64 mw)).run Try.prog w = .ok (.float .f64 c7) w := fun w => run_fl7 .mul 26 w R7.mc
                have F4 : ∀ w : World, (binOp .mul 26 (.float .f64 kf) (.float .f64 c7)).run Try.prog w = .ok (.float .f64 o7) w := fun w => run_fl7 .mul 26 w (by have q := R7.mo; rw [hkf] at q; exact q)
                have F5 : ∀ w : World, (binOp .sub 26 (.float .f64 lo') (.float .f64 o7)).run Try.prog w = .ok (.float .f64 a7) w := fun w => run_fl7 .sub 26 w R7.sa
                have F6 : ∀ w : World, (binOp .add 26 (.float .f64 hi') (.float .f64 o7)).run Try.prog w = .ok (.float .f64 b7) w := fun w => run_fl7 .add 26 w R7.sb
                obtain ⟨ga1, ga2⟩ := R7.ga
                obtain ⟨gb1, gb2⟩ := R7.gb
                have HI2 : Hid (IV (val mw) E lo' hi' r) := R7.iv
                have HONE : Hid (eqF (ab s) (ab 4607182418800017408) = true → ∃ e, bin .sub (ab r) (ab x) = some e ∧ (ltF (ab (Go.Fl.abs e)) (ab o7) || eqF (ab (Go.Fl.abs e)) (ab o7)) = true ∧ (ltF (ab (Go.Fl.abs e)) (ab o7) = true ∨ eqF (ab (Go.Fl.abs e)) (ab o7) = true)) := R7.one
                clear R7 hmp hiv2 HIV
                cases hs1 : eqF (ab s) (ab 4607182418800017408)
                · go_wp2_with (first
                    | (go_at_call 15; (with_reducible refine H15.out.mono ?_); rintro e w5 ⟨G5, c5, d5, ov5, rfl, HO5, HP5, HT5, HV5, HD5⟩
                       have HD0 : Hid (d5[0]! = r) := of_ab ((HD5.out 0 (by omega)).trans HNX.out)
                       replace cx := HT5.out.cell (by have := HPB.out; have := HP5.out.lo; omega) (by have := HPB.out; have := HP5.out.lt2.1; omega) cx
                       replace cz := HT5.out.cell (by have := HPB.out; have := HP5.out.lo; omega) (by have := HPB.out; have := HP5.out.lt2.1; omega) cz)
                    | (go_at_call 17; (refine (t17 HP5.out (k := 0) (by omega)).mono ?_); rintro e w6 ⟨rfl, hw6⟩; subst w6; rw [HD0.out])
                    | (go_at_call 23; (with_reducible refine (t23 _ _).mono ?_); rintro e w6 ⟨rfl, hw6⟩; subst w6))
                  go_roundw
                  case rel => exact ⟨i + 1, lo', hi', by omega, by omega, by go_num, rfl, rfl, HT5.out.up HK.out.up (by have := HP5.out.lo; omega) (by have := HP5.out.lt2.1; omega), Or.inr ⟨by omega, d5, HP5.out, by rw [HD0.out]; exact HI2.out⟩⟩
                  case measure => simp [intOf]; omega
                · obtain ⟨e7, q1, q2, q3⟩ := HONE.out hs1
                  have F7 : ∀ w : World, (binOp .sub 26 (.float .f64 r) (.float .f64 x)).run Try.prog w = .ok (.float .f64 e7) w := fun w => run_fl7 .sub 26 w q1
                  clear q1
                  go_wp2_with (first
                    | (go_at_call 15; (with_reducible refine H15.out.mono ?_); rintro e w5 ⟨G5, c5, d5, ov5, rfl, HO5, HP5, HT5, HV5, HD5⟩
                       have HD0 : Hid (d5[0]! = r) := of_ab ((HD5.out 0 (by omega)).trans HNX.out)
                       replace cx := HT5.out.cell (by have := HPB.out; have := HP5.out.lo; omega) (by have := HPB.out; have := HP5.out.lt2.1; omega) cx
                       replace cz := HT5.out.cell (by have := HPB.out; have := HP5.out.lo; omega) (by have := HPB.out; have := HP5.out.lt2.1; omega) cz)
                    | (go_at_call 17; (refine (t17 HP5.out (k := 0) (by omega)).mono ?_); rintro e w6 ⟨rfl, hw6⟩; subst w6; rw [HD0.out])
                    | (go_at_call 23; (with_reducible refine (t23 _ _).mono ?_); rintro e w6 ⟨rfl, hw6⟩; subst w6))
                  go_roundw
                  case rel => exact ⟨i + 1, lo', hi', by omega, by omega, by go_num, rfl, rfl, HT5.out.up HK.out.up (by have := HP5.out.lo; omega) (by have := HP5.out.lt2.1; omega), Or.inr ⟨by omega, d5, HP5.out, by rw [HD0.out]; exact HI2.out⟩⟩
                  case measure => simp [intOf]; omega
              · clear hx cz
                have hib : ((i : Int) == 0) = false := by simp; omega
                have hib2 : ¬ (i : Int) = 0 := by omega
                obtain ⟨d, hmp, hiv⟩ : ∃ d, MP w.heap.size wr M L 1 s true d ∧ IV (val mw) E lo hi d[0]! := by
                  rcases HK.out.st with ⟨q, _⟩ | ⟨_, q⟩
                  · omega
                  · exact q
                have HIV : Hid (IV (val mw) E lo hi d[0]!) := hiv
                clear hiv
                have hiv2 := HIV.out
                obtain ⟨dd, r, lo', hi', c7, o7, a7, b7, R7⟩ := round7 (i := i) HE.out HL7.out.1 (by omega) HSV.out.1 HSV.out.2.1 HSV.out.2.2 HFX.out.1 HFX.out.2.1 HFX.out.2.2 HIV.out
                have HNX : Hid (nextF (ab s) true (fun i => ab d[i]!) (fun _ => x) 0 = some r) := by
                  obtain ⟨p, st⟩ := R7.st
                  exact (next_of st HSV.out.1 HFX.out.1 (by exact Fnt.ab hiv2.fL) rfl).2
                have H15 : Hid (Calls Try.prog 15 #[.pointer (some ⟨M, 0, none⟩), .slice (some ⟨pb, po + i, none⟩) 1 (c - i)] wr (FE w.heap.size wr M L 1 s true (fun i => ab d[i]!) (fun _ => x))) := feed15 hmp (fun i hi => rfl) (fun j hj => by
                  obtain rfl : j = 0 := by omega
                  exact cx) (by omega) (by omega) (by have := HPB.out; have := hmp.lo; omega) (by have := HPB.out; have := hmp.lt2.1; omega)
                obtain ⟨F1, F2⟩ : (∀ (ts : Array TypeId) (t : TypeId) (w : World), (Builtin.min_ ts t #[.float .f64 lo, .float .f64 x]).run Try.prog w = .ok (.float .f64 lo') w) ∧ (∀ (ts : Array TypeId) (t : TypeId) (w : World), (Builtin.max_ ts t #[.float .f64 hi, .float .f64 x]).run Try.prog w = .ok (.float .f64 hi') w) := ⟨R7.mn, R7.mx⟩
                obtain ⟨kf, hkf⟩ : ∃ kf, floatOfInt .f64 ((i : Int) + 1) = kf := ⟨_, rfl⟩
                have F3 : ∀ w : World, (binOp .mul 26 (.float .f64 4382002437431492608) (.float .f64 mw)).run Try.prog w = .ok (.float .f64 c7) w := fun w => run_fl7 .mul 26 w R7.mc
                have F4 : ∀ w : World, (binOp .mul 26 (.float .f64 kf) (.float .f64 c7)).run Try.prog w = .ok (.float .f64 o7) w := fun w => run_fl7 .mul 26 w (by have q := R7.mo; rw [hkf] at q; exact q)
                have F5 : ∀ w : World, (binOp .sub 26 (.float .f64 lo') (.float .f64 o7)).run Try.prog w = .ok (.float .f64 a7) w := fun w => run_fl7 .sub 26 w R7.sa
                have F6 : ∀ w : World, (binOp .add 26 (.float .f64 hi') (.float .f64 o7)).run Try.prog w = .ok (.float .f64 b7) w := fun w => run_fl7 .add 26 w R7.sb
                obtain ⟨ga1, ga2⟩ := R7.ga
                obtain ⟨gb1, gb2⟩ := R7.gb
                have HI2 : Hid (IV (val mw) E lo' hi' r) := R7.iv
                have HONE : Hid (eqF (ab s) (ab 4607182418800017408) = true → ∃ e, bin .sub (ab r) (ab x) = some e ∧ (ltF (ab (Go.Fl.abs e)) (ab o7) || eqF (ab (Go.Fl.abs e)) (ab o7)) = true ∧ (ltF (ab (Go.Fl.abs e)) (ab o7) = true ∨ eqF (ab (Go.Fl.abs e)) (ab o7) = true)) := R7.one
                clear R7 hmp hiv2 HIV
                cases hs1 : eqF (ab s) (ab 4607182418800017408)
                · go_wp2_with (first
                    | (go_at_call 15; (with_reducible refine H15.out.mono ?_); rintro e w5 ⟨G5, c5, d5, ov5, rfl, HO5, HP5, HT5, HV5, HD5⟩
                       have HD0 : Hid (d5[0]! = r) := of_ab ((HD5.out 0 (by omega)).trans HNX.out)
                       replace cx := HT5.out.cell (by have := HPB.out; have := HP5.out.lo; omega) (by have := HPB.out; have := HP5.out.lt2.1; omega) cx)
                    | (go_at_call 17; (refine (t17 HP5.out (k := 0) (by omega)).mono ?_); rintro e w6 ⟨rfl, hw6⟩; subst w6; rw [HD0.out])
                    | (go_at_call 23; (with_reducible refine (t23 _ _).mono ?_); rintro e w6 ⟨rfl, hw6⟩; subst w6))
                  go_roundw
                  case rel => exact ⟨i + 1, lo', hi', by omega, by omega, by go_num, rfl, rfl, HT5.out.up HK.out.up (by have := HP5.out.lo; omega) (by have := HP5.out.lt2.1; omega), Or.inr ⟨by omega, d5, HP5.out, by rw [HD0.out]; exact HI2.out⟩⟩
                  case measure => simp [intOf]; omega
                · obtain ⟨e7, q1, q2, q3⟩ := HONE.out hs1
                  have F7 : ∀ w : World, (binOp .sub 26 (.float .f64 r) (.float .f64 x)).run Try.prog w = .ok (.float .f64 e7) w := fun w => run_fl7 .sub 26 w q1
                  clear q1
                  go_wp2_with (first
                    | (go_at_call 15; (with_reducible refine H15.out.mono ?_); rintro e w5 ⟨G5, c5, d5, ov5, rfl, HO5, HP5, HT5, HV5, HD5⟩
                       have HD0 : Hid (d5[0]! = r) := of_ab ((HD5.out 0 (by omega)).trans HNX.out)
                       replace cx := HT5.out.cell (by have := HPB.out; have := HP5.out.lo; omega) (by have := HPB.out; have := HP5.out.lt2.1; omega) cx)
                    | (go_at_call 17; (refine (t17 HP5.out (k := 0) (by omega)).mono ?_); rintro e w6 ⟨rfl, hw6⟩; subst w6; rw [HD0.out])
                    | (go_at_call 23; (with_reducible refine (t23 _ _).mono ?_); rintro e w6 ⟨rfl, hw6⟩; subst w6))
                  go_roundw
                  case rel => exact ⟨i + 1, lo', hi', by omega, by omega, by go_num, rfl, rfl, HT5.out.up HK.out.up (by have := HP5.out.lo; omega) (by have := HP5.out.lt2.1; omega), Or.inr ⟨by omega, d5, HP5.out, by rw [HD0.out]; exact HI2.out⟩⟩
                  case measure => simp [intOf]; omega
            · have HU2 : Hid (Up w wr) := HK.out.up
              have e1 : ¬ (i : Int) < (n : Int) := by omega
              clear HK hci hi1 hi2
              by_cases hn2 : n < 200
              · have g200 : ¬ (200 : Int) ≤ (n : Int) := by omega
                obtain ⟨n1, hn1⟩ : ∃ n1, n + 1 = n1 := ⟨_, rfl⟩
                have HN1 : Hid (n + 1 = n1) := hn1
                have g1 : (n : Int) + 1 = (n1 : Int) := by omega
                have g2 : (n1 : Int) ≤ 200 := by omega
                have HV2 : Hid (∀ W, Up w W → VF W p n f) := fun W hu => HV.out.up hu
                clear hn1
                obtain ⟨i0, hi0, hz0, hz1, hz2⟩ := info_parts info26
                generalize hWr : wr = wa at *
                clear hWr
                go_wp2_with (first
                  | (go_at_call 12; (with_reducible refine (t12 n1 s _ (by have := HN1.out; omega) (by omega) HSH.out).mono ?_); rintro e w3 ⟨M2, L2, rfl, HM2, U3⟩)
                  | (at_builtin; (fail_if_success have := U4); refine wpList_app_vf rfl _ _ rfl w3.heap.size w3.heap.size p n c f rfl rfl (own_empty w3 (Nat.le_refl _)) (HV2.out _ ((HU2.out.trans U3.out).trans (Up.alloc _ _))) (by omega) (Up.alloc _ _).size ?_; intro gx cx1 w4 hown4' hgr4' hat4
                     have hown4 : Hid (w4.ownsRow w3.heap.size 26 1 (.slice (some ⟨gx, 0, none⟩) n cx1) n ((cutN f n).map (Value.float .f64))) := hown4'
                     have hgr4 : Hid ((w3.alloc (.cells #[] 26)).grownBy w4 (some w3.heap.size)) := hgr4'
                     clear hown4' hgr4'
                     have U4 : Hid (Up w3 w4) := Below.grown (Up.alloc _ _) hgr4.out (Up.alloc _ _).size (fun x hx => by cases hx; exact Nat.le_refl _))
                  | (at_builtin; refine wpList_append_lies _ rfl _ _ 28 rfl w3.heap.size 26 i0 (.float .f64 0) 1 8 Try.underlying28 hi0 hz0 hz1 hz2 rfl (by omega) (.slice (some ⟨gx, 0, none⟩) n cx1) n _ rfl (hown4.out.alloc _) ⟨w4.heap.size, 0, none⟩ 1 1 [.float .f64 4607182418800017408] rfl rfl (one_new _ _ _) (one_cell rfl) (by omega) (by unfold maxLen; omega) (by omega) (Nat.le_trans U4.out.size (Up.alloc _ _).size) (w4.heap.size + 1) (by simp) ?_; intro g2' c2' w5 hown5 hgr5 hat5 hlt5
                     have U5 : Hid (Up w3 w5) := Below.grown (U4.out.trans (Up.alloc _ _)) hgr5 (Nat.le_trans U4.out.size (Up.alloc _ _).size) (fun x hx => (hown4.out.lt x hx).1)))
                have HROW : Hid (FO w3.heap.size w5 (.slice (some ⟨g2', 0, none⟩) n1 c2') (cutN f n ++ [4607182418800017408])) := by
                  have q := (mine_own hown5).1
                  rw [HN1.out] at q; exact q
                have HRF : Hid (∀ i, i < n1 → Fnt (cutN f n ++ [4607182418800017408])[i]! ∧ val (cutN f n ++ [4607182418800017408])[i]! ≤ pw 900 ∧ -pw 900 ≤ val (cutN f n ++ [4607182418800017408])[i]!) := fun i hi => by
                  by_cases e : i < n
                  · rw [mine_at _ _ _ e]
                    obtain ⟨q1, q2, q3⟩ := HL9.out.2.2.2 i (by have := HMM.out; omega)
                    have q4 := HL9.out.2.2.1
                    exact ⟨q1, by grind, by grind⟩
                  · obtain rfl : i = n := by have := HN1.out; omega
                    rw [mine_last]
                    have t := pw_mono (show (0 : Int) ≤ 900 by omega)
                    have t0 : pw 0 = 1 := by decide +kernel
                    have p9 := pw_pos 900
                    exact ⟨f1.1, by rw [f1.2]; grind, by rw [f1.2]; grind⟩
                have HZ0 : Hid (Z3 w w3 w5 M2 L2 n1 s g2' c2' false (List.replicate n1 0) (cutN f n ++ [4607182418800017408])) := ⟨(HM2.out.base HU2.out.size).up U5.out, HROW.out, (fun h => by cases h), ⟨HM2.out.lt, HM2.out.lt2.2⟩, (HU2.out.trans U3.out).trans U5.out⟩
                generalize cutN f n ++ [4607182418800017408] = row at *
                rw [HN1.out]
                clear hown4 hown5 hgr4 hgr5 hat4 hat5 hlt5 HROW U4 U5 HM2 U3 HL9 HV2
                go_loopw [19] (fun vi wr => ∃ (t : Nat) (fed : Bool) (d : List Nat), t ≤ 3 ∧ vi = .int .i64 t ∧ Hid (Z3 w w3 wr M2 L2 n1 s g2' c2' fed d row)) (fun vi _ => 3 - (intOf vi).toNat)
                case atStart => exact ⟨0, _, _, by omega, rfl, HZ0⟩
                case round =>
                  clear HZ0
                  obtain ⟨t, fed, d, ht, rfl, HZ⟩ := hrel
                  by_cases htl : t < 3
                  · have y1 : (t : Int) < 3 := by omega
                    have H15 : Hid (Calls Try.prog 15 #[.pointer (some ⟨M2, 0, none⟩), .slice (some ⟨g2', 0, none⟩) n1 c2'] wr (FE w.heap.size wr M2 L2 n1 s fed (fun i => ab d[i]!) (fun i => row[i]!))) := feed15 HZ.out.mp (fun i hi => rfl) (FO.rf HZ.out.own) (by have := HN1.out; omega) (by omega) (by have := (OR.at_ HZ.out.own).1; have := HZ.out.lt; omega) (by have := (OR.at_ HZ.out.own).1; have := HZ.out.lt; omega)
                    generalize hWt : wr = wt at *
                    clear hWt
                    go_wp2_with (go_at_call 15; (with_reducible refine H15.out.mono ?_); rintro e w6 ⟨G6, c6, d6, ov6, rfl, HO6, HP6, HT6, HV6, HD6⟩)
                    obtain ⟨zn, ze⟩ := HZ.out.next HSV.out.1 HSV.out.2.1 HSV.out.2.2 HRF.out HP6.out HT6.out HV6.out HD6.out
                    have HZN : Hid (Z3 w w3 w6 M2 L2 n1 s g2' c2' true d6 row) := zn
                    have HZE : Hid (∀ i, i < n1 → eqF (ab ov6[i]!) (ab 0) = true) := ze
                    clear zn ze HP6 HT6 HV6 HD6 HZ H15
                    go_loopw [22] (fun vi wr => ∃ (k : Nat), k ≤ n1 ∧ vi = .int .i64 k ∧ wr = w6) (fun vi _ => n1 - (intOf vi).toNat)
                    case atStart => exact ⟨0, by omega, rfl, rfl⟩
                    case round =>
                      obtain ⟨k, hk, rfl, hwk⟩ := hrel
                      subst wr
                      by_cases hkl : k < n1
                      · have k1 := HO6.out.cell (i := k) (by rw [OR.len HO6.out]; exact hkl)
                        have k2 := HZE.out k hkl
                        generalize ov6[k]! = v6 at k1 k2
                        have y2 : (k : Int) < (n1 : Int) := by omega
                        have y3 : (0 : Int) ≤ (k : Int) := by omega
                        go_wp2
                        go_roundw
                        case rel => exact ⟨k + 1, by omega, by go_num, trivial⟩
                        case measure => simp [intOf]; omega
                      · obtain rfl : k = n1 := by omega
                        go_wp2
                        go_roundw
                        case rel => exact ⟨t + 1, _, _, by omega, by go_num, HZN⟩
                        case measure => simp [intOf]; omega
                  · obtain rfl : t = 3 := by omega
                    go_wp2_with (go_at_call 11; (with_reducible refine (t11 _).mono ?_); rintro e w7 ⟨rfl, U7⟩)
                    go_ret
                    exact ⟨rfl, HZ.out.up.trans U7.out⟩
              · have g200 : (200 : Int) ≤ (n : Int) := by omega
                have H3 : Hid (∀ W, Calls Try.prog 12 #[.int .i64 ((n : Int) + 1), .float .f64 s] W fun e w' => ∃ q k, e = .returned (.tuple #[.pointer q, .int .i64 k]) ∧ Hid (Up W w')) := fun W => by
                  by_cases h1 : newE ((n : Int) + 1) (ab s) = 0
                  · have hg := new_range h1
                    obtain ⟨G, hG⟩ : ∃ G : Nat, (n : Int) + 1 = G := ⟨n + 1, by omega⟩
                    rw [hG]
                    exact (t12 G _ W (by omega) (by omega) HSH.out).mono fun e w' ⟨M, L, h1, h2, h3⟩ => ⟨_, _, h1, h3⟩
                  · exact (t12e W rfl h1).mono fun e w' ⟨h1, h2⟩ => ⟨_, _, h1, by rw [h2]; exact Up.refl _⟩
                go_wp2_with (first
                  | (go_at_call 12; (with_reducible refine (H3.out _).mono ?_); rintro e w3 ⟨q3, k3, rfl, U3⟩)
                  | (go_at_call 11; (with_reducible refine (t11 _).mono ?_); rintro e w5 ⟨rfl, U5⟩))
                go_ret
                exact ⟨rfl, (HU2.out.trans U3.out).trans U5.out⟩
        · have hA1 : i = 200 := by omega
          have e1 : (i : Int) < (n : Int) := by omega
          have e2 : ¬ (i : Int) < 200 := by omega
          obtain ⟨m, hm1⟩ : ∃ m, m = i := ⟨_, rfl⟩
          have HL9 : Hid (L7 f mw m) := by rw [hm1]; exact HL7
          have hm2 : m = 200 := by omega
          have HMM : Hid (m = 200) := hm2
          clear hm1 hm2 hi hi2 HL7 hci
          go_wp2
          go_loopw [9, 10, 11] (fun v9 v10 vi wr => ∃ (i lo hi : Nat), i ≤ n ∧ i ≤ 200 ∧ vi = .int .i64 i ∧ v9 = .float .f64 lo ∧ v10 = .float .f64 hi ∧ Hid (K7 w wr M L s mw E i lo hi)) (fun _ _ vi _ => 200 - (intOf vi).toNat)
          case atStart => exact ⟨0, 0, 0, by omega, by omega, rfl, rfl, rfl, HK0⟩
          case round =>
            clear HK0 e1 e2
            obtain ⟨i, lo, hi, hi1, hi2, rfl, rfl, rfl, HK⟩ := hrel
            by_cases hci : i < n ∧ i < 200
            · obtain ⟨c1, c2⟩ := hci
              obtain ⟨pb, po, hp, hr⟩ := HV.out (by omega)
              subst hp
              have cx := cell_up (hr i c1) HK.out.up
              have cz := cell_up (hr 0 (by omega)) HK.out.up
              rw [Nat.add_zero] at cz
              have HPB : Hid (pb < w.heap.size) := World.block_lt_of_cell? w _ (hr i c1)
              obtain ⟨x, hx⟩ : ∃ x, f i = x := ⟨_, rfl⟩
              have HFX : Hid (Fnt x ∧ val x ≤ val mw ∧ -val mw ≤ val x) := by rw [← hx]; exact HL9.out.2.2.2 i (by have := HMM.out; omega)
              have HL7 : Hid (L7 f mw m) := HL9
              rw [hx] at cx
              have y1 : (i : Int) < (n : Int) := by omega
              have y2 : (i : Int) < 200 := by omega
              have y3 : (0 : Int) ≤ (i : Int) := by omega
              have y4 : (0 : Int) < (n : Int) := by omega
              have y5 : ¬ c = i := by omega
              have y6 : ¬ c - i = 0 := by omega
              have y7 : (i : Int) + 1 ≤ (c : Int) := by omega
              clear hr
              by_cases h00 : i = 0
              · rw [show f 0 = x by rw [← h00]; exact hx] at cz
                clear hx
                have hib : ((i : Int) == 0) = true := by simp; omega
                obtain ⟨d, hmp⟩ : ∃ d, MP w.heap.size wr M L 1 s false d := by
                  rcases HK.out.st with ⟨_, q⟩ | ⟨q, _⟩
                  · exact q
                  · omega
                have HIV : Hid (IV (val mw) E x x x) := IV.start HE.out HFX.out.1 HFX.out.2.1 HFX.out.2.2
                clear h00
                have hiv2 := HIV.out
                obtain ⟨dd, r, lo', hi', c7, o7, a7, b7, R7⟩ := round7 (i := i) HE.out HL7.out.1 (by omega) HSV.out.1 HSV.out.2.1 HSV.out.2.2 HFX.out.1 HFX.out.2.1 HFX.out.2.2 HIV.out
                have HNX : Hid (nextF (ab s) false (fun i => ab d[i]!) (fun _ => x) 0 = some r) := by
                  obtain ⟨p, st⟩ := R7.st
                  exact (next_of st HSV.out.1 HFX.out.1 (by exact Fnt.ab HFX.out.1) rfl).2
                have H15 : Hid (Calls Try.prog 15 #[.pointer (some ⟨M, 0, none⟩), .slice (some ⟨pb, po + i, none⟩) 1 (c - i)] wr (FE w.heap.size wr M L 1 s false (fun i => ab d[i]!) (fun _ => x))) := feed15 hmp (fun i hi => rfl) (fun j hj => by
                  obtain rfl : j = 0 := by omega
                  exact cx) (by omega) (by omega) (by have := HPB.out; have := hmp.lo; omega) (by have := HPB.out; have := hmp.lt2.1; omega)
                obtain ⟨F1, F2⟩ : (∀ (ts : Array TypeId) (t : TypeId) (w : World), (Builtin.min_ ts t #[.float .f64 x, .float .f64 x]).run Try.prog w = .ok (.float .f64 lo') w) ∧ (∀ (ts : Array TypeId) (t : TypeId) (w : World), (Builtin.max_ ts t #[.float .f64 x, .float .f64 x]).run Try.prog w = .ok (.float .f64 hi') w) := ⟨R7.mn, R7.mx⟩
                obtain ⟨kf, hkf⟩ : ∃ kf, floatOfInt .f64 ((i : Int) + 1) = kf := ⟨_, rfl⟩
                have F3 : ∀ w : World, (binOp .mul 26 (.float .f64 4382002437431492608) (.float .f64 mw)).run Try.prog w = .ok (.float .f64 c7) w := fun w => run_fl7 .mul 26 w R7.mc
                have F4 : ∀ w : World, (binOp .mul 26 (.float .f64 kf) (.float .f64 c7)).run Try.prog w = .ok (.float .f64 o7) w := fun w => run_fl7 .mul 26 w (by have q := R7.mo; rw [hkf] at q; exact q)
                have F5 : ∀ w : World, (binOp .sub 26 (.float .f64 lo') (.float .f64 o7)).run Try.prog w = .ok (.float .f64 a7) w := fun w => run_fl7 .sub 26 w R7.sa
                have F6 : ∀ w : World, (binOp .add 26 (.float .f64 hi') (.float .f64 o7)).run Try.prog w = .ok (.float .f64 b7) w := fun w => run_fl7 .add 26 w R7.sb
                obtain ⟨ga1, ga2⟩ := R7.ga
                obtain ⟨gb1, gb2⟩ := R7.gb
                have HI2 : Hid (IV (val mw) E lo' hi' r) := R7.iv
                have HONE : Hid (eqF (ab s) (ab 4607182418800017408) = true → ∃ e, bin .sub (ab r) (ab x) = some e ∧ (ltF (ab (Go.Fl.abs e)) (ab o7) || eqF (ab (Go.Fl.abs e)) (ab o7)) = true ∧ (ltF (ab (Go.Fl.abs e)) (ab o7) = true ∨ eqF (ab (Go.Fl.abs e)) (ab o7) = true)) := R7.one
                clear R7 hmp hiv2 HIV
                cases hs1 : eqF (ab s) (ab 4607182418800017408)
                · go_wp2_with (first
                    | (go_at_call 15; (with_reducible refine H15.out.mono ?_); rintro e w5 ⟨G5, c5, d5, ov5, rfl, HO5, HP5, HT5, HV5, HD5⟩
                       have HD0 : Hid (d5[0]! = r) := of_ab ((HD5.out 0 (by omega)).trans HNX.out)
                       replace cx := HT5.out.cell (by have := HPB.out; have := HP5.out.lo; omega) (by have := HPB.out; have := HP5.out.lt2.1; omega) cx
                       replace cz := HT5.out.cell (by have := HPB.out; have := HP5.out.lo; omega) (by have := HPB.out; have := HP5.out.lt2.1; omega) cz)
                    | (go_at_call 17; (refine (t17 HP5.out (k := 0) (by omega)).mono ?_); rintro e w6 ⟨rfl, hw6⟩; subst w6; rw [HD0.out])
                    | (go_at_call 23; (with_reducible refine (t23 _ _).mono ?_); rintro e w6 ⟨rfl, hw6⟩; subst w6))
                  go_roundw
                  case rel => exact ⟨i + 1, lo', hi', by omega, by omega, by go_num, rfl, rfl, HT5.out.up HK.out.up (by have := HP5.out.lo; omega) (by have := HP5.out.lt2.1; omega), Or.inr ⟨by omega, d5, HP5.out, by rw [HD0.out]; exact HI2.out⟩⟩
                  case measure => simp [intOf]; omega
                · obtain ⟨e7, q1, q2, q3⟩ := HONE.out hs1
                  have F7 : ∀ w : World, (binOp .sub 26 (.float .f64 r) (.float .f64 x)).run Try.prog w = .ok (.float .f64 e7) w := fun w => run_fl7 .sub 26 w q1
                  clear q1
                  go_wp2_with (first
                    | (go_at_call 15; (with_reducible refine H15.out.mono ?_); rintro e w5 ⟨G5, c5, d5, ov5, rfl, HO5, HP5, HT5, HV5, HD5⟩
                       have HD0 : Hid (d5[0]! = r) := of_ab ((HD5.out 0 (by omega)).trans HNX.out)
                       replace cx := HT5.out.cell (by have := HPB.out; have := HP5.out.lo; omega) (by have := HPB.out; have := HP5.out.lt2.1; omega) cx
                       replace cz := HT5.out.cell (by have := HPB.out; have := HP5.out.lo; omega) (by have := HPB.out; have := HP5.out.lt2.1; omega) cz)
                    | (go_at_call 17; (refine (t17 HP5.out (k := 0) (by omega)).mono ?_); rintro e w6 ⟨rfl, hw6⟩; subst w6; rw [HD0.out])
                    | (go_at_call 23; (with_reducible refine (t23 _ _).mono ?_); rintro e w6 ⟨rfl, hw6⟩; subst w6))
                  go_roundw
                  case rel => exact ⟨i + 1, lo', hi', by omega, by omega, by go_num, rfl, rfl, HT5.out.up HK.out.up (by have := HP5.out.lo; omega) (by have := HP5.out.lt2.1; omega), Or.inr ⟨by omega, d5, HP5.out, by rw [HD0.out]; exact HI2.out⟩⟩
                  case measure => simp [intOf]; omega
              · clear hx cz
                have hib : ((i : Int) == 0) = false := by simp; omega
                have hib2 : ¬ (i : Int) = 0 := by omega
                obtain ⟨d, hmp, hiv⟩ : ∃ d, MP w.heap.size wr M L 1 s true d ∧ IV (val mw) E lo hi d[0]! := by
                  rcases HK.out.st with ⟨q, _⟩ | ⟨_, q⟩
                  · omega
                  · exact q
                have HIV : Hid (IV (val mw) E lo hi d[0]!) := hiv
                clear hiv
                have hiv2 := HIV.out
                obtain ⟨dd, r, lo', hi', c7, o7, a7, b7, R7⟩ := round7 (i := i) HE.out HL7.out.1 (by omega) HSV.out.1 HSV.out.2.1 HSV.out.2.2 HFX.out.1 HFX.out.2.1 HFX.out.2.2 HIV.out
                have HNX : Hid (nextF (ab s) true (fun i => ab d[i]!) (fun _ => x) 0 = some r) := by
                  obtain ⟨p, st⟩ := R7.st
                  exact (next_of st HSV.out.1 HFX.out.1 (by exact Fnt.ab hiv2.fL) rfl).2
                have H15 : Hid (Calls Try.prog 15 #[.pointer (some ⟨M, 0, none⟩), .slice (some ⟨pb, po + i, none⟩) 1 (c - i)] wr (FE w.heap.size wr M L 1 s true (fun i => ab d[i]!) (fun _ => x))) := feed15 hmp (fun i hi => rfl) (fun j hj => by
                  obtain rfl : j = 0 := by omega
                  exact cx) (by omega) (by omega) (by have := HPB.out; have := hmp.lo; omega) (by have := HPB.out; have := hmp.lt2.1; omega)
                obtain ⟨F1, F2⟩ : (∀ (ts : Array TypeId) (t : TypeId) (w : World), (Builtin.min_ ts t #[.float .f64 lo, .float .f64 x]).run Try.prog w = .ok (.float .f64 lo') w) ∧ (∀ (ts : Array TypeId) (t : TypeId) (w : World), (Builtin.max_ ts t #[.float .f64 hi, .float .f64 x]).run Try.prog w = .ok (.float .f64 hi') w) := ⟨R7.mn, R7.mx⟩
                obtain ⟨kf, hkf⟩ : ∃ kf, floatOfInt .f64 ((i : Int) + 1) = kf := ⟨_, rfl⟩
                have F3 : ∀ w : World, (binOp .mul 26 (.float .f64 4382002437431492608) (.float .f64 mw)).run Try.prog w = .ok (.float .f64 c7) w := fun w => run_fl7 .mul 26 w R7.mc
                have F4 : ∀ w : World, (binOp .mul 26 (.float .f64 kf) (.float .f64 c7)).run Try.prog w = .ok (.float .f64 o7) w := fun w => run_fl7 .mul 26 w (by have q := R7.mo; rw [hkf] at q; exact q)
                have F5 : ∀ w : World, (binOp .sub 26 (.float .f64 lo') (.float .f64 o7)).run Try.prog w = .ok (.float .f64 a7) w := fun w => run_fl7 .sub 26 w R7.sa
                have F6 : ∀ w : World, (binOp .add 26 (.float .f64 hi') (.float .f64 o7)).run Try.prog w = .ok (.float .f64 b7) w := fun w => run_fl7 .add 26 w R7.sb
                obtain ⟨ga1, ga2⟩ := R7.ga
                obtain ⟨gb1, gb2⟩ := R7.gb
                have HI2 : Hid (IV (val mw) E lo' hi' r) := R7.iv
                have HONE : Hid (eqF (ab s) (ab 4607182418800017408) = true → ∃ e, bin .sub (ab r) (ab x) = some e ∧ (ltF (ab (Go.Fl.abs e)) (ab o7) || eqF (ab (Go.Fl.abs e)) (ab o7)) = true ∧ (ltF (ab (Go.Fl.abs e)) (ab o7) = true ∨ eqF (ab (Go.Fl.abs e)) (ab o7) = true)) := R7.one
                clear R7 hmp hiv2 HIV
                cases hs1 : eqF (ab s) (ab 4607182418800017408)
                · go_wp2_with (first
                    | (go_at_call 15; (with_reducible refine H15.out.mono ?_); rintro e w5 ⟨G5, c5, d5, ov5, rfl, HO5, HP5, HT5, HV5, HD5⟩
                       have HD0 : Hid (d5[0]! = r) := of_ab ((HD5.out 0 (by omega)).trans HNX.out)
                       replace cx := HT5.out.cell (by have := HPB.out; have := HP5.out.lo; omega) (by have := HPB.out; have := HP5.out.lt2.1; omega) cx)
                    | (go_at_call 17; (refine (t17 HP5.out (k := 0) (by omega)).mono ?_); rintro e w6 ⟨rfl, hw6⟩; subst w6; rw [HD0.out])
                    | (go_at_call 23; (with_reducible refine (t23 _ _).mono ?_); rintro e w6 ⟨rfl, hw6⟩; subst w6))
                  go_roundw
                  case rel => exact ⟨i + 1, lo', hi', by omega, by omega, by go_num, rfl, rfl, HT5.out.up HK.out.up (by have := HP5.out.lo; omega) (by have := HP5.out.lt2.1; omega), Or.inr ⟨by omega, d5, HP5.out, by rw [HD0.out]; exact HI2.out⟩⟩
                  case measure => simp [intOf]; omega
                · obtain ⟨e7, q1, q2, q3⟩ := HONE.out hs1
                  have F7 : ∀ w : World, (binOp .sub 26 (.float .f64 r) (.float .f64 x)).run Try.prog w = .ok (.float .f64 e7) w := fun w => run_fl7 .sub 26 w q1
                  clear q1
                  go_wp2_with (first
                    | (go_at_call 15; (with_reducible refine H15.out.mono ?_); rintro e w5 ⟨G5, c5, d5, ov5, rfl, HO5, HP5, HT5, HV5, HD5⟩
                       have HD0 : Hid (d5[0]! = r) := of_ab ((HD5.out 0 (by omega)).trans HNX.out)
                       replace cx := HT5.out.cell (by have := HPB.out; have := HP5.out.lo; omega) (by have := HPB.out; have := HP5.out.lt2.1; omega) cx)
                    | (go_at_call 17; (refine (t17 HP5.out (k := 0) (by omega)).mono ?_); rintro e w6 ⟨rfl, hw6⟩; subst w6; rw [HD0.out])
                    | (go_at_call 23; (with_reducible refine (t23 _ _).mono ?_); rintro e w6 ⟨rfl, hw6⟩; subst w6))
                  go_roundw
                  case rel => exact ⟨i + 1, lo', hi', by omega, by omega, by go_num, rfl, rfl, HT5.out.up HK.out.up (by have := HP5.out.lo; omega) (by have := HP5.out.lt2.1; omega), Or.inr ⟨by omega, d5, HP5.out, by rw [HD0.out]; exact HI2.out⟩⟩
                  case measure => simp [intOf]; omega
            · have HU2 : Hid (Up w wr) := HK.out.up
              have e1 : (i : Int) < (n : Int) := by omega
              have e2 : ¬ (i : Int) < 200 := by omega
              clear HK hci hi1 hi2
              have g200 : (200 : Int) ≤ (n : Int) := by omega
              have H3 : Hid (∀ W, Calls Try.prog 12 #[.int .i64 ((n : Int) + 1), .float .f64 s] W fun e w' => ∃ q k, e = .returned (.tuple #[.pointer q, .int .i64 k]) ∧ Hid (Up W w')) := fun W => by
                by_cases h1 : newE ((n : Int) + 1) (ab s) = 0
                · have hg := new_range h1
                  obtain ⟨G, hG⟩ : ∃ G : Nat, (n : Int) + 1 = G := ⟨n + 1, by omega⟩
                  rw [hG]
                  exact (t12 G _ W (by omega) (by omega) HSH.out).mono fun e w' ⟨M, L, h1, h2, h3⟩ => ⟨_, _, h1, h3⟩
                · exact (t12e W rfl h1).mono fun e w' ⟨h1, h2⟩ => ⟨_, _, h1, by rw [h2]; exact Up.refl _⟩
              go_wp2_with (first
                | (go_at_call 12; (with_reducible refine (H3.out _).mono ?_); rintro e w3 ⟨q3, k3, rfl, U3⟩)
                | (go_at_call 11; (with_reducible refine (t11 _).mono ?_); rintro e w5 ⟨rfl, U5⟩))
              go_ret
              exact ⟨rfl, (HU2.out.trans U3.out).trans U5.out⟩
end Go.Proofs.Ytgalgnopjcpocaa

/- Turns, the program's. -/
import Derived.Test.YtcgbmcnefolgcaaBd
import Derived.Test.YtcgbmcnefolgcaaBe
namespace Go.Proofs.Ytcgbmcnefolgcaa
open Go.ChangeShapes Go.WideShapes Go.ChangeAt Go.RowKit Go.Fl Go.Sort
attribute [local go_sem] run_store_float call22 call54 run_neg fold_eq fold_ne fold_lt fold_gt abs_eq

theorem fin_nan {x : Nat} (h : fin (ab x) = true) : isN x = false := by
  cases hN : isN x with
  | false => rfl
  | true => rw [ab_none hN] at h; cases h
theorem le_gt {x y : Nat} (hx : isN x = false) (hy : isN y = false) : (ltF (ab x) (ab y) || eqF (ab x) (ab y)) = !gtF (ab x) (ab y) := by
  have e1 : ord (ab x) (ab y) = some (compare (lin x) (lin y)) := by rw [← order_ab]; exact order_lin hx hy
  unfold ltF eqF gtF
  rw [e1]
  cases compare (lin x) (lin y) <;> rfl
/-- Do all times rise? -/
def riseB (t : Array Nat) : Bool := allN (fun i => gtF (ab t[i + 1]!) (ab t[i]!)) (t.size - 1)
set_option maxHeartbeats 1000000 in
theorem t47 {w : World} {p : Option Addr} {n cap : Nat} {d : Array Nat} (h : SV w p n cap d) (hn : n ≤ 1000000) (hF : finL d = true) : Calls Try.prog 47 #[.slice p n cap] w fun e w' => e = .returned (.bool (riseB d)) ∧ Hid (Up w w') := by
  have HS : Hid (SV w p n cap d) := h
  have hl := h.len
  have HF : Hid (∀ i, i < n → isN d[i]! = false) := fun i hi => fin_nan ((allN_iff _).1 hF i (by rw [hl]; exact hi))
  clear h hF
  have z0 : (n : Int) ≤ 1000000 := by omega
  go_enter Try.func47, Try.ntmps47
  go_wp2
  go_loopw [3] (fun vi wr => ∃ i : Nat, (i + 1 ≤ n ∨ i = 0) ∧ vi = .int .i64 ((i : Int) + 1) ∧ Hid (Up w wr) ∧ Hid (allN (fun i => gtF (ab d[i + 1]!) (ab d[i]!)) i = true)) (fun vi _ => n - (intOf vi).toNat)
  case atStart => exact ⟨0, Or.inr rfl, rfl, Up.refl _, rfl⟩
  case round =>
    obtain ⟨i, hi, rfl, HU, HA⟩ := hrel
    rename World => wr
    by_cases hlt : i + 1 < n
    · obtain ⟨b, o, rfl, hr⟩ := HS.out.rd (by omega)
      have c0 := cell_up (hr i (by omega)) HU.out
      have c1 := cell_up (hr (i + 1) (by omega)) HU.out
      have hlg := le_gt (HF.out (i + 1) (by omega)) (HF.out i (by omega))
      obtain ⟨x, hx⟩ : ∃ x, d[i]! = x := ⟨_, rfl⟩
      obtain ⟨y, hy⟩ : ∃ y, d[i + 1]! = y := ⟨_, rfl⟩
      rw [hx] at c0 hlg
      rw [hy] at c1 hlg
      have HX : Hid (d[i]! = x ∧ d[i + 1]! = y) := ⟨hx, hy⟩
      have z1 : (i : Int) + 1 < (n : Int) := by omega
      have z2 : (i : Int) < (n : Int) := by omega
      have e0 : ((i : Int) + 1).toNat = i + 1 := by omega
      have p0 : (0 : Int) ≤ (i : Int) + 1 := by omega
      clear hr hx hy
      cases hb : gtF (ab y) (ab x)
      · rw [hb] at hlg
        go_wp2_with fail
        go_quiet (fail)
        go_wp2
        go_ret
        refine ⟨?_, HU.out.dr _⟩
        unfold riseB
        simp only [allN_false (F := fun i => gtF (ab d[i + 1]!) (ab d[i]!)) (i := i) (by show gtF (ab d[i + 1]!) (ab d[i]!) = false; rw [HX.out.1, HX.out.2, hb]) (d.size - 1) (by omega)]
        rfl
      · rw [hb] at hlg
        go_wp2_with fail
        go_quiet (fail)
        go_wp2
        go_roundw
        case rel => exact ⟨i + 1, Or.inl (by omega), by go_num, HU.out.dr _, by show (_ && gtF (ab d[i + 1]!) (ab d[i]!)) = true; rw [HA.out, HX.out.1, HX.out.2, hb]; rfl⟩
        case measure => simp [intOf]; omega
    · have z1 : ¬ (i : Int) + 1 < (n : Int) := by omega
      go_wp2
      go_ret
      exact ⟨by unfold riseB; rw [show d.size - 1 = i by omega, HA.out]; rfl, HU⟩
def slA (t x : Array Nat) (i : Nat) : Option Nat := slF (ab t[i]!) (ab t[i + 1]!) (ab x[i]!) (ab x[i + 1]!)
/-- Does the course change at the place k + 1? -/
def turnB (t x : Array Nat) (m : Option Nat) (k : Nat) : Bool := gtF ((bin .sub (slA t x (k + 1)) (slA t x k)).map abs) m
/-- The places from 1 to k at which it does. -/
def turnN (t x : Array Nat) (m : Option Nat) : Nat → List Nat
  | 0 => []
  | k + 1 => if turnB t x m k = true then turnN t x m k ++ [k + 1] else turnN t x m k
theorem turnN_len (t x : Array Nat) (m : Option Nat) : ∀ k, (turnN t x m k).length ≤ k
  | 0 => Nat.le_refl _
  | k + 1 => by
    have := turnN_len t x m k
    unfold turnN
    split <;> simp <;> omega
def turE (t x : Array Nat) (m : Option Nat) : Int :=
  if lenE t.size x.size = 0 then (if (finL t && finL x && eqF m m) = true then (if riseB t = true then 0 else 2) else 6) else lenE t.size x.size
def turD (t x : Array Nat) (m : Option Nat) : List Nat := if turE t x m = 0 then turnN t x m (t.size - 2) else []
def TnR (w : World) (t x : Array Nat) (m : Option Nat) (e : Ending) (w' : World) : Prop := ∃ p c, e = .returned (.tuple #[.slice p (turD t x m).length c, .int .i64 (turE t x m)]) ∧ Hid (OR ie 3 w.heap.size w' (.slice p (turD t x m).length c) (turD t x m)) ∧ Hid (Up w w')
theorem TnR.bad {w w' : World} {t x : Array Nat} {m : Option Nat} {c : Int} (h : turE t x m = c) (hc : c ≠ 0) (hu : Up w w') : TnR w t x m (.returned (.tuple #[.slice none 0 0, .int .i64 c])) w' := by
  have e : turD t x m = [] := by unfold turD; rw [h, if_neg hc]
  refine ⟨none, 0, by rw [e, h]; rfl, ?_, hu⟩
  rw [e]; exact OR.nil _ _ _ _
theorem t18len {w : World} {p p2 : Option Addr} {n cap m cap2 : Nat} {d d2 : Array Nat} (z : Nat) (h : SV w p n cap d) (h2 : SV w p2 m cap2 d2) (hE : lenE n m ≠ 0) : Calls Try.prog 18 #[.slice p n cap, .slice p2 m cap2, .float .f64 z] w (TnR w d d2 (ab z)) := by
  have HU : Hid (Up w ((w.alloc (.cells #[.slice p n cap] 23)).alloc (.cells #[.slice p2 m cap2] 23))) := Up.alloc2 _ _ _
  obtain ⟨_, _, g0, g1⟩ := BX.new h h2
  have HL : Hid (turE d d2 (ab z) = lenE n m) := by show _ = _; unfold turE; rw [h.len, h2.len, if_neg hE]
  obtain ⟨c, hc⟩ : ∃ c, lenE n m = c := ⟨_, rfl⟩
  have C36 : Hid (∀ w, Calls Try.prog 36 #[.slice p n cap, .slice p2 m cap2] w fun e w' => e = .returned (.int .i64 c) ∧ w' = w) := fun w => hc ▸ t36 _ _ _ _ _ _ w
  rw [hc] at hE HL
  have b0 : (c == 0) = false := beq_false_of_ne hE
  clear h h2 hc
  go_enter Try.func18, Try.ntmps18
  go_wp2_with (go_at_call 36; (with_reducible refine (C36.out _).mono ?_); rintro e w' ⟨rfl, rfl⟩)
  go_ret2
  exact TnR.bad HL.out hE HU.out
theorem t18fin {w : World} {p p2 : Option Addr} {n cap m cap2 : Nat} {d d2 : Array Nat} (z : Nat) (h : SV w p n cap d) (h2 : SV w p2 m cap2 d2) (hE : lenE n m = 0) (hF : (finL d && finL d2 && eqF (ab z) (ab z)) = false) : Calls Try.prog 18 #[.slice p n cap, .slice p2 m cap2, .float .f64 z] w (TnR w d d2 (ab z)) := by
  have HU : Hid (Up w ((w.alloc (.cells #[.slice p n cap] 23)).alloc (.cells #[.slice p2 m cap2] 23))) := Up.alloc2 _ _ _
  obtain ⟨s1, s2, g0, g1⟩ := BX.new h h2
  have S1 : Hid _ := s1
  have S2 : Hid _ := s2
  have HL : Hid (turE d d2 (ab z) = 6) := by show _ = _; unfold turE; rw [h.len, h2.len, if_pos hE, hF]; rfl
  have C36 : Hid (∀ w, Calls Try.prog 36 #[.slice p n cap, .slice p2 m cap2] w fun e w' => e = .returned (.int .i64 0) ∧ w' = w) := fun w => hE ▸ t36 _ _ _ _ _ _ w
  obtain ⟨e1, e2⟩ := lenE0 hE
  have Z2 : Hid (n ≤ 1000000 ∧ m ≤ 1000000) := ⟨by omega, by omega⟩
  clear h h2 hE s1 s2 e1
  cases f1 : finL d
  · go_enter Try.func18, Try.ntmps18
    go_wp2_with (first | (go_at_call 36; (with_reducible refine (C36.out _).mono ?_); rintro e w' ⟨rfl, rfl⟩) | (go_at_call 37; (with_reducible refine (t37 S1.out Z2.out.1).mono ?_); rintro e w' ⟨rfl, rfl⟩; rw [f1]))
    go_ret2
    exact TnR.bad HL.out (by decide) HU.out
  · cases f2 : finL d2
    · go_enter Try.func18, Try.ntmps18
      go_wp2_with (first | (go_at_call 36; (with_reducible refine (C36.out _).mono ?_); rintro e w' ⟨rfl, rfl⟩) | (go_at_call 37; (with_reducible refine (t37 S1.out Z2.out.1).mono ?_); rintro e w' ⟨rfl, hw⟩; subst w'; rw [f1]) | (go_at_call 37; (with_reducible refine (t37 S2.out Z2.out.2).mono ?_); rintro e w' ⟨rfl, hw⟩; subst w'; rw [f2]))
      go_ret2
      exact TnR.bad HL.out (by decide) HU.out
    · have f3 : eqF (ab z) (ab z) = false := by rw [f1, f2] at hF; simpa using hF
      go_enter Try.func18, Try.ntmps18
      go_wp2_with (first | (go_at_call 36; (with_reducible refine (C36.out _).mono ?_); rintro e w' ⟨rfl, rfl⟩) | (go_at_call 37; (with_reducible refine (t37 S1.out Z2.out.1).mono ?_); rintro e w' ⟨rfl, hw⟩; subst w'; rw [f1]) | (go_at_call 37; (with_reducible refine (t37 S2.out Z2.out.2).mono ?_); rintro e w' ⟨rfl, hw⟩; subst w'; rw [f2]) | (go_at_call 46; (with_reducible refine (t46 _ _).mono ?_); rintro e w' ⟨rfl, hw⟩; subst w'; rw [f3]))
      go_ret2
      exact TnR.bad HL.out (by decide) HU.out
set_option maxHeartbeats 4000000 in
theorem t18ok {w : World} {p p2 : Option Addr} {n cap m cap2 : Nat} {d d2 : Array Nat} (z : Nat) (h : SV w p n cap d) (h2 : SV w p2 m cap2 d2) (hE : lenE n m = 0) (f1 : finL d = true) (f2 : finL d2 = true) (f3 : eqF (ab z) (ab z) = true) : Calls Try.prog 18 #[.slice p n cap, .slice p2 m cap2, .float .f64 z] w (TnR w d d2 (ab z)) := by
  have HE : Hid (turE d d2 (ab z) = if riseB d = true then 0 else 2) := by show _ = _; unfold turE; rw [h.len, h2.len, if_pos hE, f1, f2, f3]; rfl
  obtain ⟨e1, e2⟩ := lenE0 hE
  subst e1
  have HU : Hid (Up w ((w.alloc (.cells #[.slice p n cap] 23)).alloc (.cells #[.slice p2 n cap2] 23))) := Up.alloc2 _ _ _
  have B : Hid (BX ((w.alloc (.cells #[.slice p n cap] 23)).alloc (.cells #[.slice p2 n cap2] 23)) w.heap.size (w.heap.size + 1) p p2 n cap n cap2 d d2) := BX.new h h2
  obtain ⟨_, _, g0, g1⟩ := B.out
  have C36 : Hid (∀ w, Calls Try.prog 36 #[.slice p n cap, .slice p2 n cap2] w fun e w' => e = .returned (.int .i64 0) ∧ w' = w) := fun w => hE ▸ t36 _ _ _ _ _ _ w
  have Z2 : Hid (n ≤ 1000000) := (by omega : n ≤ 1000000)
  have HL : Hid (d.size = n) := h.len
  clear h h2 hE
  cases hr : riseB d
  · rw [hr] at HE
    go_enter Try.func18, Try.ntmps18
    go_wp2_with fail
    generalize (w.alloc (.cells #[.slice p n cap] 23)).alloc (.cells #[.slice p2 n cap2] 23) = W at *
    generalize w.heap.size + 1 = q at *
    generalize w.heap.size = g at *
    go_wp2_with (first
      | (go_at_call 36; (with_reducible refine (C36.out _).mono ?_); rintro e w' ⟨rfl, hw⟩; subst w')
      | (go_at_call 37; (with_reducible refine (t37 B.out.sv Z2.out).mono ?_); rintro e w' ⟨rfl, hw⟩; subst w'; rw [f1])
      | (go_at_call 37; (with_reducible refine (t37 B.out.sx Z2.out).mono ?_); rintro e w' ⟨rfl, hw⟩; subst w'; rw [f2])
      | (go_at_call 46; (with_reducible refine (t46 _ _).mono ?_); rintro e w' ⟨rfl, hw⟩; subst w'; rw [f3])
      | (go_at_call 47; (with_reducible refine (t47 B.out.sv Z2.out f1).mono ?_); rintro e w1 ⟨rfl, U1⟩; rw [hr]))
    go_ret2
    exact TnR.bad HE.out (by decide) (HU.out.trans U1.out)
  · rw [hr] at HE
    go_enter Try.func18, Try.ntmps18
    go_wp2_with fail
    generalize (w.alloc (.cells #[.slice p n cap] 23)).alloc (.cells #[.slice p2 n cap2] 23) = W at *
    generalize w.heap.size + 1 = q at *
    generalize w.heap.size = g at B g0
    go_wp2_with (first
      | (go_at_call 36; (with_reducible refine (C36.out _).mono ?_); rintro e w' ⟨rfl, hw⟩; subst w')
      | (go_at_call 37; (with_reducible refine (t37 B.out.sv Z2.out).mono ?_); rintro e w' ⟨rfl, hw⟩; subst w'; rw [f1])
      | (go_at_call 37; (with_reducible refine (t37 B.out.sx Z2.out).mono ?_); rintro e w' ⟨rfl, hw⟩; subst w'; rw [f2])
      | (go_at_call 46; (with_reducible refine (t46 _ _).mono ?_); rintro e w' ⟨rfl, hw⟩; subst w'; rw [f3])
      | (go_at_call 47; (with_reducible refine (t47 B.out.sv Z2.out f1).mono ?_); rintro e w1 ⟨rfl, U1⟩; rw [hr]))
    have B1 : Hid (BX w1 g q p p2 n cap n cap2 d d2) := B.out.up U1.out
    have U2 : Hid (Up w w1) := HU.out.trans U1.out
    clear B U1 HU g0 g1
    have z0 : (n : Int) ≤ 1024 := by omega
    go_loopw [10, 11] (fun vs vi wr => ∃ (k m c : Nat) (pr : Option Addr), k ≤ n - 2 ∧ vs = .slice pr m c ∧ vi = .int .i64 ((k : Int) + 1) ∧ Hid (OR ie 3 w1.heap.size wr (.slice pr m c) (turnN d d2 (ab z) k)) ∧ Hid (Up w1 wr)) (fun _ vi _ => n - (intOf vi).toNat)
    case atStart => exact ⟨0, 0, 0, none, by omega, rfl, rfl, OR.nil _ _ _ _, Up.refl _⟩
    case round =>
      obtain ⟨k, m, c, pr, hk, rfl, rfl, HO, HU⟩ := hrel
      rename World => wr
      have B2 : Hid (BX wr g q p p2 n cap n cap2 d d2) := B1.out.up HU.out
      obtain ⟨_, _, g0, g1⟩ := B2.out
      by_cases hlt : k + 2 < n
      · have z1 : (k : Int) + 1 < (n : Int) - 1 := by omega
        have z2 : (k : Int) + 1 - 1 = (k : Int) := by omega
        have C1 : Hid (Calls Try.prog 48 #[.int .i64 ((k : Int) + 1), .pointer (some ⟨q, 0, none⟩), .pointer (some ⟨g, 0, none⟩)] wr (FR wr (slA d d2 (k + 1)))) := t48 (i := k + 1) B2.out.sv B2.out.ct B2.out.sx B2.out.cx (by omega) Z2.out
        have C2 : Hid (∀ j, Calls Try.prog 48 #[.int .i64 (k : Int), .pointer (some ⟨q, 0, none⟩), .pointer (some ⟨g, 0, none⟩)] (wr.drewN j) (FR (wr.drewN j) (slA d d2 k))) := fun j => by
          have B3 := B2.out.up (Up.drewN wr j)
          exact t48 (i := k) B3.sv B3.ct B3.sx B3.cx (by omega) Z2.out
        go_wp2_with fail
        with_reducible refine C1.out.mono ?_
        rintro e w2 ⟨r1, j1, rfl, rfl, H1⟩
        go_wp2_with fail
        with_reducible refine (C2.out _).mono ?_
        rintro e w2 ⟨r2, j2, rfl, rfl, H2⟩
        clear C1 C2
        have HO2 : Hid (OR ie 3 w1.heap.size ((wr.drewN j1).drewN j2) (.slice pr m c) (turnN d d2 (ab z) k)) := HO.out.up ((Up.drewN _ _).trans (Up.drewN _ _))
        have HU2 : Hid (Up w1 ((wr.drewN j1).drewN j2)) := HU.out.trans ((Up.drewN _ _).trans (Up.drewN _ _))
        clear HO HU B2 g0 g1
        generalize (wr.drewN j1).drewN j2 = wq at *
        have hm := turnN_len d d2 (ab z) k
        have hml := HO2.out.len
        have HM : Hid ((turnN d d2 (ab z) k).length ≤ 2000000) := (by omega : _ ≤ _)
        clear hm hml
        cases hb : turnB d d2 (ab z) k
        · have HB : Hid (turnB d d2 (ab z) k = false) := hb
          clear hb
          go_wp2_with (first
            | ((with_reducible refine upon_fl (op := .sub) (by simp) ?_); intro r3 k3 H3; have hq : gtF (ab (Go.Fl.abs r3)) (ab z) = false := (by rw [ab_abs, H3.out, H1.out, H2.out]; exact HB.out))
            | (go_at_call 49; (with_reducible refine (t49 _ _).mono ?_); rintro e w' ⟨rfl, hw⟩; subst w'))
          go_roundw
          case rel => exact ⟨k + 1, m, c, pr, by omega, rfl, by go_num, by show OR _ _ _ _ _ _; unfold turnN; rw [if_neg (by rw [HB.out]; decide)]; exact HO2.out.up (Up.drewN _ _), HU2.out.dr _⟩
          case measure => simp [intOf]; omega
        · have HB : Hid (turnB d d2 (ab z) k = true) := hb
          clear hb
          go_wp2_with (first
            | ((with_reducible refine upon_fl (op := .sub) (by simp) ?_); intro r3 k3 H3; (have hq : gtF (ab (Go.Fl.abs r3)) (ab z) = true := (by rw [ab_abs, H3.out, H1.out, H2.out]; exact HB.out)); (have HO3 : Hid (OR ie 3 w1.heap.size (wq.drewN k3) (.slice pr m c) (turnN d d2 (ab z) k)) := HO2.out.up (Up.drewN _ _)); (have HU3 : Hid (Up w1 (wq.drewN k3)) := HU2.out.dr _))
            | (go_at_call 49; (with_reducible refine (t49 _ _).mono ?_); rintro e w' ⟨rfl, hw⟩; subst w')
            | (at_builtin; (refine wpList_push (enc := ie) (y := k + 1) info3 rfl (by decide) Try.underlying38 rfl _ _ rfl pr m c _ rfl rfl rfl HO3.out HU3.out HM.out ?_); intro p' c' w5 HO5 HU5))
          go_roundw
          case rel => exact ⟨k + 1, m + 1, c', p', by omega, rfl, by go_num, by show OR _ _ _ _ _ _; unfold turnN; rw [if_pos HB.out]; exact HO5.out, HU5.out⟩
          case measure => simp [intOf]; omega
      · have z1 : ¬ (k : Int) + 1 < (n : Int) - 1 := by omega
        have hkn : k = n - 2 := by omega
        go_wp2
        go_ret2
        have hD : turD d d2 (ab z) = turnN d d2 (ab z) k := by unfold turD; rw [HE.out, HL.out, hkn]; rfl
        refine ⟨pr, c, ?_, ?_, (U2.out.trans HU.out)⟩
        · rw [HE.out, hD, HO.out.len]; rfl
        · rw [hD, HO.out.len]; exact HO.out.base (RowKit.Below.size U2.out)
theorem t18 {w : World} {p p2 : Option Addr} {n cap m cap2 : Nat} {d d2 : Array Nat} (z : Nat) (h : SV w p n cap d) (h2 : SV w p2 m cap2 d2) : Calls Try.prog 18 #[.slice p n cap, .slice p2 m cap2, .float .f64 z] w (TnR w d d2 (ab z)) := by
  by_cases hE : lenE n m = 0
  · cases hF : (finL d && finL d2 && eqF (ab z) (ab z))
    · exact t18fin z h h2 hE hF
    · simp only [Bool.and_eq_true] at hF
      exact t18ok z h h2 hE hF.1.1 hF.1.2 hF.2
  · exact t18len z h h2 hE
end Go.Proofs.Ytcgbmcnefolgcaa

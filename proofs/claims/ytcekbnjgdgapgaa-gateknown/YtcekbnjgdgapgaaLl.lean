/- The walk of GateKnown. -/
import Derived.Test.YtcekbnjgdgapgaaLk
namespace Go.Proofs.Ytcekbnjgdgapgaa
open Go.ChangeShapes Go.WideShapes Go.ChangeAt Go.RowKit Go.Fl Ieee
attribute [local go_sem] run_store_float call36 call37 run_neg fold_eq fold_ne fold_lt fold_gt abs_eq

theorem IU.k {w w' : World} {p k : Int} {e : Ending} (h : IU w p e w') (hp : p = k) : e = .returned (.int .i64 k) ∧ Hid (Up w w') := by
  subst hp; exact h
theorem k11a (w : World) : Calls Try.prog 11 #[.agg #[.float .f64 4621819117588971520, .float .f64 4598175219545276416, .float .f64 4652007308841189376, .int .i64 100, .int .i64 8], .float .f64 4652006429231887155] w fun e w' => e = .returned (.tuple #[.int .i64 99, .int .i64 0, .int .i64 0]) ∧ Hid (Up w w') :=
  (t11 _ _ _ _ _ _ w).mono fun _ _ h => h.k (by decide +kernel)
theorem k11b (w : World) : Calls Try.prog 11 #[.agg #[.float .f64 4621819117588971520, .float .f64 4598175219545276416, .float .f64 4652007308841189376, .int .i64 100, .int .i64 8], .float .f64 13830554455654793216] w fun e w' => e = .returned (.tuple #[.int .i64 0, .int .i64 0, .int .i64 2]) ∧ Hid (Up w w') :=
  (t11 _ _ _ _ _ _ w).mono fun _ _ h => h.k (by decide +kernel)
theorem k11c (w : World) : Calls Try.prog 11 #[.agg #[.float .f64 4621819117588971520, .float .f64 4598175219545276416, .float .f64 4652007308841189376, .int .i64 100, .int .i64 8], .float .f64 9221120237041090561] w fun e w' => e = .returned (.tuple #[.int .i64 0, .int .i64 0, .int .i64 6]) ∧ Hid (Up w w') :=
  (t11 _ _ _ _ _ _ w).mono fun _ _ h => h.k (by decide +kernel)
theorem k13 (w : World) : Calls Try.prog 13 #[.agg #[.float .f64 4621819117588971520, .float .f64 4598175219545276416, .float .f64 4652007308841189376, .int .i64 100, .int .i64 8], .int .i64 100, .int .i64 0] w fun e w' => e = .returned (.tuple #[.float .f64 0, .int .i64 2]) ∧ Hid (Up w w') :=
  (t13 _ _ _ _ _ _ _ w).mono fun _ _ h => h.k (by decide +kernel)
theorem k17a (w : World) : Calls Try.prog 17 #[.agg #[.float .f64 4621819117588971520, .float .f64 4598175219545276416, .float .f64 4652007308841189376, .int .i64 100, .int .i64 8], .float .f64 4608308318706860032] w fun e w' => e = .returned (.tuple #[.float .f64 0, .int .i64 0]) ∧ Hid (Up w w') :=
  (t17 _ _ _ _ _ _ w).mono fun _ _ h => h.k (by decide +kernel)
theorem k17b (w : World) : Calls Try.prog 17 #[.agg #[.float .f64 4621819117588971520, .float .f64 4598175219545276416, .float .f64 4652007308841189376, .int .i64 100, .int .i64 8], .float .f64 4603804719079489536] w fun e w' => e = .returned (.tuple #[.float .f64 13839561654909534208, .int .i64 0]) ∧ Hid (Up w w') :=
  (t17 _ _ _ _ _ _ w).mono fun _ _ h => h.k (by decide +kernel)
theorem k19 (w : World) : Calls Try.prog 19 #[.agg #[.float .f64 4621819117588971520, .float .f64 4598175219545276416, .float .f64 4652007308841189376, .int .i64 100, .int .i64 8], .float .f64 13835058055282163712] w fun e w' => e = .returned (.tuple #[.float .f64 4599301119452119040, .int .i64 0]) ∧ Hid (Up w w') :=
  (t19 _ _ _ _ _ _ w).mono fun _ _ h => h.k (by decide +kernel)
theorem k21 (w : World) : Calls Try.prog 21 #[.agg #[.float .f64 4621819117588971520, .float .f64 4598175219545276416, .float .f64 4652007308841189376, .int .i64 100, .int .i64 8]] w fun e w' => e = .returned (.tuple #[.float .f64 4652007308841189376, .float .f64 4608308318706860032, .int .i64 0]) ∧ Hid (Up w w') :=
  (t21 _ _ _ _ _ w).mono fun _ _ h => h.k (by decide +kernel)
theorem k9a (w : World) : Calls Try.prog 9 #[.agg #[.float .f64 4621819117588971520, .float .f64 4598175219545276416, .float .f64 4652007308841189376, .int .i64 100, .int .i64 8]] w fun e w' => e = .returned (.int .i64 0) ∧ Hid (Up w w') :=
  (t9 _ _ _ _ _ w).mono fun _ _ h => h.k (by decide +kernel)
theorem k9b (w : World) : Calls Try.prog 9 #[.agg #[.float .f64 4621819117588971520, .float .f64 4598175219545276416, .float .f64 0, .int .i64 100, .int .i64 8]] w fun e w' => e = .returned (.int .i64 80) ∧ Hid (Up w w') :=
  (t9 _ _ _ _ _ w).mono fun _ _ h => h.k (by decide +kernel)
theorem k9c (w : World) : Calls Try.prog 9 #[.agg #[.float .f64 4621819117588971520, .float .f64 4598175219545276416, .float .f64 4652007308841189376, .int .i64 16384, .int .i64 32]] w fun e w' => e = .returned (.int .i64 3) ∧ Hid (Up w w') :=
  (t9 _ _ _ _ _ w).mono fun _ _ h => h.k (by decide +kernel)
/-- Three beats that lie in memory. -/
structure TB (W : World) (s : Nat) : Prop where
  b1 : BC W s 4621819117588971520 4598175219545276416 4652007308841189376 100 8
  b2 : BC W (s + 1) 4621819117588971520 4598175219545276416 0 100 8
  b3 : BC W (s + 1 + 1) 4621819117588971520 4598175219545276416 4652007308841189376 16384 32
theorem TB.up {W W' : World} {s : Nat} (h : TB W s) (hu : Up W W') : TB W' s := ⟨h.b1.up hu, h.b2.up hu, h.b3.up hu⟩
theorem TB.hup {W W' : World} {s : Nat} (h : Hid (TB W s)) (hu : Hid (Up W W')) : Hid (TB W' s) := h.out.up hu.out
theorem TB.new (w : World) : TB (((w.alloc (.cells #[.float .f64 4621819117588971520, .float .f64 4598175219545276416, .float .f64 4652007308841189376, .int .i64 100, .int .i64 8] 24)).alloc (.cells #[.float .f64 4621819117588971520, .float .f64 4598175219545276416, .float .f64 0, .int .i64 100, .int .i64 8] 24)).alloc (.cells #[.float .f64 4621819117588971520, .float .f64 4598175219545276416, .float .f64 4652007308841189376, .int .i64 16384, .int .i64 32] 24)) w.heap.size := by
  refine ⟨((BC.new w _ _ _ _ _).up (Up.alloc _ _)).up (Up.alloc _ _), ?_, ?_⟩
  · have h := (BC.new (w.alloc (.cells #[.float .f64 4621819117588971520, .float .f64 4598175219545276416, .float .f64 4652007308841189376, .int .i64 100, .int .i64 8] 24)) 4621819117588971520 4598175219545276416 0 100 8).up (Up.alloc _ (.cells #[.float .f64 4621819117588971520, .float .f64 4598175219545276416, .float .f64 4652007308841189376, .int .i64 16384, .int .i64 32] 24))
    simpa using h
  · have h := BC.new ((w.alloc (.cells #[.float .f64 4621819117588971520, .float .f64 4598175219545276416, .float .f64 4652007308841189376, .int .i64 100, .int .i64 8] 24)).alloc (.cells #[.float .f64 4621819117588971520, .float .f64 4598175219545276416, .float .f64 0, .int .i64 100, .int .i64 8] 24)) 4621819117588971520 4598175219545276416 4652007308841189376 16384 32
    simpa using h
theorem up3 (w : World) (a b c : Obj) : Up w (((w.alloc a).alloc b).alloc c) := ((Up.alloc _ _).trans (Up.alloc _ _)).trans (Up.alloc _ _)
set_option maxHeartbeats 4000000 in
theorem t8 (w : World) : Calls Try.prog 8 #[] w (TU w) := by
  have e1 : eqF (ab 0) (ab 0) = true := by decide +kernel
  have e2 : eqF (ab 13839561654909534208) (ab 13839561654909534208) = true := by decide +kernel
  have e3 : eqF (ab 4599301119452119040) (ab 4599301119452119040) = true := by decide +kernel
  have e4 : eqF (ab 4652007308841189376) (ab 4652007308841189376) = true := by decide +kernel
  have e5 : eqF (ab 4608308318706860032) (ab 4608308318706860032) = true := by decide +kernel
  go_enter Try.func8, Try.ntmps8
  go_wp2_with (first
    | (go_at_call 26; (with_reducible refine (t26 _).mono ?_); rintro e wa ⟨rfl, ua⟩)
    | (go_at_call 11; (with_reducible refine (k11a _).mono ?_); rintro e w1 ⟨rfl, uw1⟩; have HB : Hid (TB w1 wa.heap.size) := (TB.new wa).up uw1.out; have HU := uph (uph ua (up3 _ _ _ _)) uw1; obtain ⟨f0w1, f1w1, f2w1, f3w1, f4w1⟩ := HB.out.b1)
    | (go_at_call 11; (with_reducible refine (k11b _).mono ?_); rintro e w2 ⟨rfl, uw2⟩; replace HB := (by first | exact TB.hup HB uw2 | exact TB.hup (TB.hup HB (Up.drew _)) uw2 | exact TB.hup (TB.hup HB (Up.drewN _ _)) uw2 : Hid (TB w2 wa.heap.size)); replace HU := (by first | exact uph HU uw2 | exact uph (uph HU (Up.drew _)) uw2 | exact uph (uph HU (Up.drewN _ _)) uw2 : Hid (Up w w2)); obtain ⟨f0w2, f1w2, f2w2, f3w2, f4w2⟩ := HB.out.b1))
  go_region_with (first
    | (go_at_call 27; (with_reducible refine (t27 _).mono ?_); rintro e w' ⟨rfl, rfl⟩)
    | (go_at_call 11; (with_reducible refine (k11c _).mono ?_); rintro e w3 ⟨rfl, uw3⟩; replace HB := (by first | exact TB.hup HB uw3 | exact TB.hup (TB.hup HB (Up.drew _)) uw3 | exact TB.hup (TB.hup HB (Up.drewN _ _)) uw3 : Hid (TB w3 wa.heap.size)); replace HU := (by first | exact uph HU uw3 | exact uph (uph HU (Up.drew _)) uw3 | exact uph (uph HU (Up.drewN _ _)) uw3 : Hid (Up w w3)); obtain ⟨f0w3, f1w3, f2w3, f3w3, f4w3⟩ := HB.out.b1))
  all_goals go_wp2_with (first
    | (go_at_call 13; (with_reducible refine (k13 _).mono ?_); rintro e w4 ⟨rfl, uw4⟩; replace HB := (by first | exact TB.hup HB uw4 | exact TB.hup (TB.hup HB (Up.drew _)) uw4 | exact TB.hup (TB.hup HB (Up.drewN _ _)) uw4 : Hid (TB w4 wa.heap.size)); replace HU := (by first | exact uph HU uw4 | exact uph (uph HU (Up.drew _)) uw4 | exact uph (uph HU (Up.drewN _ _)) uw4 : Hid (Up w w4)); obtain ⟨f0w4, f1w4, f2w4, f3w4, f4w4⟩ := HB.out.b1)
    | (go_at_call 17; (with_reducible refine (k17a _).mono ?_); rintro e w5 ⟨rfl, uw5⟩; replace HB := (by first | exact TB.hup HB uw5 | exact TB.hup (TB.hup HB (Up.drew _)) uw5 | exact TB.hup (TB.hup HB (Up.drewN _ _)) uw5 : Hid (TB w5 wa.heap.size)); replace HU := (by first | exact uph HU uw5 | exact uph (uph HU (Up.drew _)) uw5 | exact uph (uph HU (Up.drewN _ _)) uw5 : Hid (Up w w5)); obtain ⟨f0w5, f1w5, f2w5, f3w5, f4w5⟩ := HB.out.b1)
    | (go_at_call 17; (with_reducible refine (k17b _).mono ?_); rintro e w6 ⟨rfl, uw6⟩; replace HB := (by first | exact TB.hup HB uw6 | exact TB.hup (TB.hup HB (Up.drew _)) uw6 | exact TB.hup (TB.hup HB (Up.drewN _ _)) uw6 : Hid (TB w6 wa.heap.size)); replace HU := (by first | exact uph HU uw6 | exact uph (uph HU (Up.drew _)) uw6 | exact uph (uph HU (Up.drewN _ _)) uw6 : Hid (Up w w6)); obtain ⟨f0w6, f1w6, f2w6, f3w6, f4w6⟩ := HB.out.b1)
    | (go_at_call 19; (with_reducible refine (k19 _).mono ?_); rintro e w7 ⟨rfl, uw7⟩; replace HB := (by first | exact TB.hup HB uw7 | exact TB.hup (TB.hup HB (Up.drew _)) uw7 | exact TB.hup (TB.hup HB (Up.drewN _ _)) uw7 : Hid (TB w7 wa.heap.size)); replace HU := (by first | exact uph HU uw7 | exact uph (uph HU (Up.drew _)) uw7 | exact uph (uph HU (Up.drewN _ _)) uw7 : Hid (Up w w7)); obtain ⟨f0w7, f1w7, f2w7, f3w7, f4w7⟩ := HB.out.b1)
    | (go_at_call 21; (with_reducible refine (k21 _).mono ?_); rintro e w8 ⟨rfl, uw8⟩; replace HB := (by first | exact TB.hup HB uw8 | exact TB.hup (TB.hup HB (Up.drew _)) uw8 | exact TB.hup (TB.hup HB (Up.drewN _ _)) uw8 : Hid (TB w8 wa.heap.size)); replace HU := (by first | exact uph HU uw8 | exact uph (uph HU (Up.drew _)) uw8 | exact uph (uph HU (Up.drewN _ _)) uw8 : Hid (Up w w8)); obtain ⟨f0w8, f1w8, f2w8, f3w8, f4w8⟩ := HB.out.b1)
    | (go_at_call 9; (with_reducible refine (k9a _).mono ?_); rintro e w9 ⟨rfl, uw9⟩; replace HB := (by first | exact TB.hup HB uw9 | exact TB.hup (TB.hup HB (Up.drew _)) uw9 | exact TB.hup (TB.hup HB (Up.drewN _ _)) uw9 : Hid (TB w9 wa.heap.size)); replace HU := (by first | exact uph HU uw9 | exact uph (uph HU (Up.drew _)) uw9 | exact uph (uph HU (Up.drewN _ _)) uw9 : Hid (Up w w9)); obtain ⟨f0w9, f1w9, f2w9, f3w9, f4w9⟩ := HB.out.b2)
    | (go_at_call 9; (with_reducible refine (k9b _).mono ?_); rintro e wb ⟨rfl, uwb⟩; replace HB := (by first | exact TB.hup HB uwb | exact TB.hup (TB.hup HB (Up.drew _)) uwb | exact TB.hup (TB.hup HB (Up.drewN _ _)) uwb : Hid (TB wb wa.heap.size)); replace HU := (by first | exact uph HU uwb | exact uph (uph HU (Up.drew _)) uwb | exact uph (uph HU (Up.drewN _ _)) uwb : Hid (Up w wb)); obtain ⟨f0wb, f1wb, f2wb, f3wb, f4wb⟩ := HB.out.b3)
    | (go_at_call 9; (with_reducible refine (k9c _).mono ?_); rintro e wc ⟨rfl, uwc⟩; replace HB := (by first | exact TB.hup HB uwc | exact TB.hup (TB.hup HB (Up.drew _)) uwc | exact TB.hup (TB.hup HB (Up.drewN _ _)) uwc : Hid (TB wc wa.heap.size)); replace HU := (by first | exact uph HU uwc | exact uph (uph HU (Up.drew _)) uwc | exact uph (uph HU (Up.drewN _ _)) uwc : Hid (Up w wc)); obtain ⟨f0wc, f1wc, f2wc, f3wc, f4wc⟩ := HB.out.b1)
    | (go_at_call 16; (with_reducible refine (t16 _).mono ?_); rintro e wd ⟨rfl, ud⟩; replace HU := uph HU ud))
  all_goals go_ret
  all_goals exact ⟨rfl, HU⟩
end Go.Proofs.Ytcekbnjgdgapgaa

/- wakes. -/
import Derived.Test.YtdolfkgnehiecaaAg
namespace Go.Proofs.Ytdolfkgnehiecaa
open Go.ChangeShapes Go.WideShapes Go.ChangeAt Go.RowKit Go.Fl Ieee
attribute [local go_sem] run_store_float call28 call35 run_neg fold_eq fold_ne fold_lt fold_gt abs_eq

theorem eqIn (a b : Nat) (w : World) : (Op.equalIn 9999 22 (.float .f64 a) (.float .f64 b)).run Try.prog w = .ok (eqF (ab a) (ab b)) w := run_equalIn_float 9998 a b w
theorem q0 : eqF (ab 4621819117588971520) (ab 4621819117588971520) = true := by decide +kernel
theorem q1 : eqF (ab 0) (ab 0) = true := by decide +kernel
theorem q2 : eqF (ab 4616189618054758400) (ab 4616189618054758400) = true := by decide +kernel
theorem q3 : eqF (ab 4607182418800017408) (ab 4607182418800017408) = true := by decide +kernel
theorem q4 : eqF (ab 4615063718147915776) (ab 4615063718147915776) = true := by decide +kernel
theorem q5 : eqF (ab 4612811918334230528) (ab 4612811918334230528) = true := by decide +kernel
theorem q6 : eqF (ab 4623226492472524800) (ab 4623226492472524800) = true := by decide +kernel
theorem q7 : eqF (ab 4606056518893174784) (ab 4606056518893174784) = true := by decide +kernel
theorem q8 : eqF (ab 4615626668101337088) (ab 4615626668101337088) = true := by decide +kernel
theorem q9 : eqF (ab 4608589793683570688) (ab 4608589793683570688) = true := by decide +kernel
theorem q10 : eqF (ab 4610489749776367616) (ab 4610489749776367616) = true := by decide +kernel
attribute [local go_sem] guard24 eqIn q0 q1 q2 q3 q4 q5 q6 q7 q8 q9 q10
set_option maxHeartbeats 1000000 in
theorem t19 (w : World) : Calls Try.prog 19 #[] w (TU w) := by
  have G := guard24
  go_enter Try.func19, Try.ntmps19
  go_wp2_with (first
    | (go_at_call 20; (with_reducible refine (t20 _ _ _ _).mono ?_); rintro e w1 ⟨rfl, u1⟩; obtain ⟨b0, b1, b2, b3, b4⟩ := BC.new w1 4621819117588971520 0 4616189618054758400 0 4607182418800017408)
    | (go_at_call 14; (with_reducible refine (k14 _).mono ?_); rintro e w2 ⟨rfl, u2⟩; have B1 := (BC.new w1 4621819117588971520 0 4616189618054758400 0 4607182418800017408).up u2.out; obtain ⟨c0, c1, c2, c3, c4⟩ := B1; obtain ⟨d0, d1, d2, d3, d4⟩ := BC.new w2 4621819117588971520 0 4621819117588971520 4615063718147915776 4612811918334230528)
    | (go_at_call 16; (with_reducible refine (k16 _).mono ?_); rintro e w3 ⟨rfl, u3⟩; obtain ⟨f0, f1, f2, f3, f4⟩ := (BC.new w1 4621819117588971520 0 4616189618054758400 0 4607182418800017408).up ((u2.out.al _).trans u3.out); obtain ⟨i0, i1, i2, i3, i4⟩ := (BC.new w2 4621819117588971520 0 4621819117588971520 4615063718147915776 4612811918334230528).up u3.out; have lt1 := World.block_lt_of_cell? w3 _ f0; have lt2 := World.block_lt_of_cell? w3 _ i0; have U3 : Hid (Up w w3) := (((u1.out.al _).trans u2.out).al _).trans u3.out; clear b0 b1 b2 b3 b4 c0 c1 c2 c3 c4 d0 d1 d2 d3 d4)
    | (go_at_call 10; (with_reducible refine (k10 _).mono ?_); rintro e w4 ⟨rfl, u4⟩; replace f0 := up_cell u4.out (up_cell (Up.alloc w3 _) f0); replace f1 := up_cell u4.out (up_cell (Up.alloc w3 _) f1); replace f2 := up_cell u4.out (up_cell (Up.alloc w3 _) f2); replace f3 := up_cell u4.out (up_cell (Up.alloc w3 _) f3); replace f4 := up_cell u4.out (up_cell (Up.alloc w3 _) f4))
    | (go_at_call 12; (with_reducible refine (k12 _).mono ?_); rintro e w5 ⟨rfl, u5⟩)
    | (go_at_call 12; (with_reducible refine (k12n _).mono ?_); rintro e w6 ⟨rfl, u6⟩))
  go_ret
  exact ⟨rfl, (((U3.out.al _).trans u4.out).trans u5.out).trans u6.out⟩
end Go.Proofs.Ytdolfkgnehiecaa

/- PlanKnown: the walk. -/
import Derived.Test.YtjklaemhfhakhaaKm
namespace Go.Proofs.Ytjklaemhfhakhaa
open Go.ChangeShapes Go.WideShapes Go.ChangeAt Go.RowKit

set_option maxRecDepth 200000 in
set_option maxHeartbeats 16000000 in
theorem t8 (w : World) : Calls Try.prog 8 #[] w (VU w (.bool true)) := by
  obtain ⟨A, hM⟩ := made26
  go_enter Try.func8, Try.ntmps8
  go_wp2_with (first
    | (go_at_call 10; (with_reducible refine (k_n1 w).mono ?_); rintro e w1 ⟨b1, rfl, HX1⟩)
    | (go_at_call 10; (with_reducible refine (k_n2 HX1.out).mono ?_); rintro e w2 ⟨b2, rfl, HX2⟩)
    | (go_at_call 10; (with_reducible refine (k_n3 HX2.out).mono ?_); rintro e w3 ⟨b3, rfl, HX3⟩)
    | (go_at_call 10; (with_reducible refine (k_n4 HX3.out).mono ?_); rintro e w4 ⟨b4, rfl, HX4⟩)
    | (go_at_call 10; (with_reducible refine (k_n5 HX4.out).mono ?_); rintro e w5 ⟨b5, rfl, HX5⟩)
    | (go_at_call 10; (with_reducible refine (k_n6 HX5.out).mono ?_); rintro e w6 ⟨b6, rfl, HX6⟩)
    | (go_at_call 17; (with_reducible refine (k_p1 HX6.out).mono ?_); rintro e w7 ⟨rfl, HX7, HK7⟩; (have HX7a : Hid (PL w (w7.alloc (.cells #[.int .i64 1, .int .i64 0, .int .i64 1, .bool false] 42)) w6.heap.size (m6 b1 b2 b3 b4 b5 b6 a1 (newP bT) (newP cT) nP (newP qT))) := HX7.out.upw (Up.alloc _ _)); (have HA7 : Hid (SlAt (w7.alloc (.cells #[.int .i64 1, .int .i64 0, .int .i64 1, .bool false] 42)) w7.heap.size 0 ⟨1, 0, 1, false⟩) := slot_new w7 ⟨1, 0, 1, false⟩); (have HB7 := HX7.out.hi))
    | (go_at_call 17; (with_reducible refine (k_p2 HX7a.out).mono ?_); rintro e w8 ⟨rfl, HX8, HK8⟩; (have HX8a : Hid (PL w (w8.alloc (.cells #[.int .i64 0, .int .i64 1, .int .i64 2, .bool false] 42)) w6.heap.size (m6 b1 b2 b3 b4 b5 b6 a2 (newP bT) (newP cT) nP (newP qT))) := HX8.out.upw (Up.alloc _ _)); (obtain ⟨y0, y1, y2, y3⟩ := (HA7.out.keep HB7 HK8.out).up (Up.alloc w8 (.cells #[.int .i64 0, .int .i64 1, .int .i64 2, .bool false] 42))); (obtain ⟨z0, z1, z2, z3⟩ := slot_new w8 ⟨0, 1, 2, false⟩); simp only [Nat.zero_add] at y0 y1 y2 y3 z0 z1 z2 z3)
    | (go_at_call 18; (with_reducible refine (k_b6 HX8a.out).mono ?_); rintro e w9 ⟨qb, cb, yb, rfl, HSb, HX9, HK9⟩; clear y0 y1 y2 y3 z0 z1 z2 z3; (have hs9 := HK9.out.size))
    | (go_at_call 22; (with_reducible refine (k_22b HX9.out HSb.out HX8a.out.hi hs9).mono ?_); rintro e w10 ⟨rfl, HX10, HK10⟩)
    | (go_at_call 18; (with_reducible refine (k_c1 HX10.out).mono ?_); rintro e w11 ⟨qc, cc, rfl, HSc, HX11, HK11⟩)
    | (go_at_call 18; (with_reducible refine (k_c9 HX11.out).mono ?_); rintro e w12 ⟨qd, cd, yc, rfl, HSd, HX12, HK12⟩; (have hb11 := HX10.out.hi); (have HSc12 : Hid (SO w10.heap.size w12 (.slice qc 1 cc) cD1) := HSc.out.keep hb11 HK12.out); (have hs12 := Nat.le_trans HK11.out.size HK12.out.size))
    | (go_at_call 22; (with_reducible refine (k_22c HX12.out HSc12.out hb11 hs12).mono ?_); rintro e w13 ⟨rfl, HX13, HK13⟩; (have HSd13 : Hid (SO w11.heap.size w13 (.slice qd 3 cd) cD2) := HSd.out.kp HK13.out (fun r hr e => by
        have h1 := (World.ownsRow.lt HSc.out r e.symm).2
        have h2 := (World.ownsRow.lt HSd.out r hr).1
        omega)); (have hs13 := Nat.le_trans HK12.out.size HK13.out.size))
    | (go_at_call 22; (with_reducible refine (k_22d HX13.out HSd13.out HX11.out.hi hs13).mono ?_); rintro e w14 ⟨rfl, HX14, HK14⟩)
    | (go_at_call 17; (with_reducible refine (k_s17 HX14.out).mono ?_); rintro e w15 ⟨rfl, HU15⟩; (have HX15 : Hid (PL w (w15.alloc (.cells #[.int .i64 0, .int .i64 0, .int .i64 0, .bool false] 42)) w6.heap.size (m6 b1 b2 b3 b4 b5 b6 a2 yb yc nP (newP qT))) := HX14.out.upw (HU15.out.trans (Up.alloc _ _))))
    | (go_at_call 13; (with_reducible refine (k_s13 HX15.out).mono ?_); rintro e w16 ⟨rfl, HU16⟩; (have HX16 : Hid (PL w w16 w6.heap.size (m6 b1 b2 b3 b4 b5 b6 a2 yb yc nP (newP qT))) := HX15.out.upw HU16.out))
    | (go_at_call 18; (with_reducible refine (k_s5 HX16.out).mono ?_); rintro e w17 ⟨qs, cs, rfl, HSs, HX17, HK17⟩)
    | (go_at_call 15; (with_reducible refine (k_s15 HX17.out).mono ?_); rintro e w18 ⟨rfl, hw18⟩; subst hw18)
    | (go_at_call 18; (with_reducible refine (k_s3 HX17.out).mono ?_); rintro e w19 ⟨qt, ct, rfl, HSt, HX19, HK19⟩)
    | (go_at_call 15; (with_reducible refine (k_s15 HX19.out).mono ?_); rintro e w20 ⟨rfl, hw20⟩; subst hw20)
    | (go_at_call 18; (with_reducible refine (k_d1 HX19.out).mono ?_); rintro e w21 ⟨qu, cu, rfl, HSu, HX21, HK21⟩)
    | (go_at_call 19; (with_reducible refine (k_ds HX21.out).mono ?_); rintro e w22 ⟨rfl, HX22⟩)
    | (go_at_call 18; (with_reducible refine (k_d9 HX22.out).mono ?_); rintro e w23 ⟨qv, cv, yv, rfl, HSv, HX23, HK23⟩; (have hs23 := HK23.out.size))
    | (go_at_call 22; (with_reducible refine (k_22e HX23.out HSv.out HX22.out.hi hs23).mono ?_); rintro e w24 ⟨rfl, HX24, HK24⟩)
    | (go_at_call 19; (with_reducible refine (k_de HX24.out).mono ?_); rintro e w25 ⟨rfl, HU25⟩)
    | (go_at_call 10; (with_reducible refine (k_e1 _).mono ?_); rintro e w26 ⟨rfl, HU26⟩)
    | (go_at_call 10; (with_reducible refine (k_e2 _).mono ?_); rintro e w27 ⟨rfl, HU27⟩)
    | (go_at_call 10; (with_reducible refine (k_e3 _).mono ?_); rintro e w28 ⟨rfl, HU28⟩)
    | (go_at_call 10; (with_reducible refine (t10long (by decide)).mono ?_); rintro e w29 ⟨rfl, HU29⟩; (have HX29 : Hid (PL w w29 w6.heap.size [⟨b6, 2, fU 0⟩]) := (HX24.out.upw ((((HU25.out.trans HU26.out).trans HU27.out).trans HU28.out).trans ((Up.alloc _ _).trans HU29.out))).only (k := 5) rfl))
    | (go_at_call 23; (with_reducible refine (t23 HX29.out).mono ?_); rintro e w30 ⟨rfl, HU30⟩)
    | (go_at_call 24; (with_reducible refine (t24 _).mono ?_); rintro e w31 ⟨rfl, HU31⟩)
    | (go_at_call 9; (with_reducible refine (t9 _).mono ?_); rintro e w32 ⟨rfl, HU32⟩))
  go_ret
  exact ⟨rfl, (HU30.out.trans HU31.out).trans HU32.out⟩
end Go.Proofs.Ytjklaemhfhakhaa

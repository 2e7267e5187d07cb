/- What wakes. -/
import Derived.Test.YtgalgnopjcpocaaDe
import Derived.Test.YtgalgnopjcpocaaRb
namespace Go.Proofs.Ytgalgnopjcpocaa
open Go.ChangeShapes Go.WideShapes Go.ChangeAt Go.RowKit Go.Fl Ieee
attribute [local go_sem] run_store_float run_store_c isSome_set call20 call33 run_neg fold_eq fold_ne fold_lt fold_gt abs_eq

/-- What a call leaves that says yes. -/
def YS (w : World) (e : Ending) (w' : World) : Prop := e = .returned (.bool true) ∧ Hid (Up w w')
def wkF (a g : Nat) : Nat × Nat := if g = 0 then (if a = 0 then (4607182418800017408, 0) else if a = 1 then (4616189618054758400, 0) else (4621256167635550208, 0)) else (4611686018427387904, 0)
theorem wk_dk : dk (fun a g => ab2 (wkF a g)) 1 1 0 = (some 4613937818241073152, some 0) ∧ dk (fun a g => ab2 (wkF a g)) 1 2 0 = (some 4617315517961601024, some 0) ∧ dk (fun a g => ab2 (wkF a g)) 1 2 1 = (some 0, some 0) := by decide +kernel
set_option maxRecDepth 20000 in
theorem wk22 (w : World) : Calls Try.prog 22 #[.slice (some ⟨w.heap.size + 1 + 1 + 1, 0, none⟩) 3 3, .int .i64 1] ((((w.alloc (.cells #[.complex .f64 4607182418800017408 0, .complex .f64 4611686018427387904 0] 53)).alloc (.cells #[.complex .f64 4616189618054758400 0, .complex .f64 4611686018427387904 0] 53)).alloc (.cells #[.complex .f64 4621256167635550208 0, .complex .f64 4611686018427387904 0] 53)).alloc (.cells #[.slice (some ⟨w.heap.size, 0, none⟩) 2 2, .slice (some ⟨w.heap.size + 1, 0, none⟩) 2 2, .slice (some ⟨w.heap.size + 1 + 1, 0, none⟩) 2 2] 54))
    (fun e w' => ∃ A b1 b2, e = .returned (.tuple #[.slice (some ⟨A, 1, none⟩) 2 2, .int .i64 0]) ∧ Hid (Up w w') ∧ Hid (w'.cell? ⟨A, 1, none⟩ = some (.slice (some ⟨b1, 0, none⟩) 2 2) ∧ w'.cell? ⟨A, 2, none⟩ = some (.slice (some ⟨b2, 0, none⟩) 2 2) ∧ w'.cell? ⟨b1, 0, none⟩ = some (.complex .f64 4613937818241073152 0) ∧ w'.cell? ⟨b2, 0, none⟩ = some (.complex .f64 4617315517961601024 0) ∧ w'.cell? ⟨b2, 1, none⟩ = some (.complex .f64 0 0))) := by
  obtain ⟨w1, h1⟩ : ∃ w1, w.alloc (.cells #[.complex .f64 4607182418800017408 0, .complex .f64 4611686018427387904 0] 53) = w1 := ⟨_, rfl⟩
  have s1 : w1.heap.size = w.heap.size + 1 := by rw [← h1]; simp
  have u1 : Up w w1 := by rw [← h1]; exact Up.alloc _ _
  have a0 : w1.cell? ⟨w.heap.size, 0, none⟩ = some (.complex .f64 4607182418800017408 0) := by rw [← h1]; exact new_cell _ _ _ _ _ rfl
  have a1 : w1.cell? ⟨w.heap.size, 1, none⟩ = some (.complex .f64 4611686018427387904 0) := by rw [← h1]; exact new_cell _ _ _ _ _ rfl
  rw [h1]
  obtain ⟨w2, h2⟩ : ∃ w2, w1.alloc (.cells #[.complex .f64 4616189618054758400 0, .complex .f64 4611686018427387904 0] 53) = w2 := ⟨_, rfl⟩
  have s2 : w2.heap.size = w.heap.size + 1 + 1 := by rw [← h2]; simp [s1]
  have u2 : Up w1 w2 := by rw [← h2]; exact Up.alloc _ _
  have b0 : w2.cell? ⟨w.heap.size + 1, 0, none⟩ = some (.complex .f64 4616189618054758400 0) := by rw [← h2, ← s1]; exact new_cell _ _ _ _ _ rfl
  have b1 : w2.cell? ⟨w.heap.size + 1, 1, none⟩ = some (.complex .f64 4611686018427387904 0) := by rw [← h2, ← s1]; exact new_cell _ _ _ _ _ rfl
  rw [h2]
  obtain ⟨w3, h3⟩ : ∃ w3, w2.alloc (.cells #[.complex .f64 4621256167635550208 0, .complex .f64 4611686018427387904 0] 53) = w3 := ⟨_, rfl⟩
  have s3 : w3.heap.size = w.heap.size + 1 + 1 + 1 := by rw [← h3]; simp [s2]
  have u3 : Up w2 w3 := by rw [← h3]; exact Up.alloc _ _
  have c0 : w3.cell? ⟨w.heap.size + 1 + 1, 0, none⟩ = some (.complex .f64 4621256167635550208 0) := by rw [← h3, ← s2]; exact new_cell _ _ _ _ _ rfl
  have c1 : w3.cell? ⟨w.heap.size + 1 + 1, 1, none⟩ = some (.complex .f64 4611686018427387904 0) := by rw [← h3, ← s2]; exact new_cell _ _ _ _ _ rfl
  rw [h3]
  obtain ⟨w4, h4⟩ : ∃ w4, w3.alloc (.cells #[.slice (some ⟨w.heap.size, 0, none⟩) 2 2, .slice (some ⟨w.heap.size + 1, 0, none⟩) 2 2, .slice (some ⟨w.heap.size + 1 + 1, 0, none⟩) 2 2] 54) = w4 := ⟨_, rfl⟩
  have u4 : Up w3 w4 := by rw [← h4]; exact Up.alloc _ _
  have d0 : w4.cell? ⟨w.heap.size + 1 + 1 + 1, 0, none⟩ = some (.slice (some ⟨w.heap.size, 0, none⟩) 2 2) := by rw [← h4, ← s3]; exact new_cell _ _ _ _ _ rfl
  have d1 : w4.cell? ⟨w.heap.size + 1 + 1 + 1, 1, none⟩ = some (.slice (some ⟨w.heap.size + 1, 0, none⟩) 2 2) := by rw [← h4, ← s3]; exact new_cell _ _ _ _ _ rfl
  have d2 : w4.cell? ⟨w.heap.size + 1 + 1 + 1, 2, none⟩ = some (.slice (some ⟨w.heap.size + 1 + 1, 0, none⟩) 2 2) := by rw [← h4, ← s3]; exact new_cell _ _ _ _ _ rfl
  rw [h4]
  have T : TI w4 (w.heap.size + 1 + 1 + 1) 3 2 (fun i => some ⟨w.heap.size + i, 0, none⟩) (fun _ => 2) (fun i => w.heap.size + i) (fun _ => 0) wkF := by
    refine ⟨fun i hi => ?_, fun i hi _ => ⟨rfl, fun j hj => ?_⟩, fun _ _ => Nat.le_refl _⟩
    · rcases (show i = 0 ∨ i = 1 ∨ i = 2 by omega) with rfl | rfl | rfl
      · exact d0
      · exact d1
      · exact d2
    · rcases (show i = 0 ∨ i = 1 ∨ i = 2 by omega) with rfl | rfl | rfl <;> rcases (show j = 0 ∨ j = 1 by omega) with rfl | rfl
      · exact cell_up a0 (u2.trans (u3.trans u4))
      · exact cell_up a1 (u2.trans (u3.trans u4))
      · exact cell_up b0 (u3.trans u4)
      · exact cell_up b1 (u3.trans u4)
      · exact cell_up c0 u4
      · exact cell_up c1 u4
  refine (t22 (c := 3) (o := 1) (n := 2) T (by omega) (by omega) (by omega) (by omega) (by omega) (by omega) (by omega)).mono ?_
  rintro e w5 ⟨A, B, D, rfl, HR, HU, HV⟩
  obtain ⟨k1, k2, k3⟩ := wk_dk
  refine ⟨A, B 1, B 2, rfl, (((u1.trans u2).trans u3).trans u4).trans HU.out, HR.out.hdr 1 (by omega), HR.out.hdr 2 (by omega), ?_, ?_, ?_⟩
  · have q := HV.out 1 (by omega) 0 (by omega)
    rw [k1] at q
    rw [HR.out.cell (a := 1) (g := 0) (by omega) (by omega), of_ab (congrArg Prod.fst q), of_ab (congrArg Prod.snd q)]
  · have q := HV.out 2 (by omega) 0 (by omega)
    rw [k2] at q
    rw [HR.out.cell (a := 2) (g := 0) (by omega) (by omega), of_ab (congrArg Prod.fst q), of_ab (congrArg Prod.snd q)]
  · have q := HV.out 2 (by omega) 1 (by omega)
    rw [k3] at q
    rw [HR.out.cell (a := 2) (g := 1) (by omega) (by omega), of_ab (congrArg Prod.fst q), of_ab (congrArg Prod.snd q)]
/-- Two floats, written out. -/
def two (x y i : Nat) : Nat := if i = 0 then x else y
theorem rf_two (w : World) (x y : Nat) (t : TypeId) : RF (w.alloc (.cells #[.float .f64 x, .float .f64 y] t)) w.heap.size 0 2 (two x y) := fun i hi => by
  rcases (show i = 0 ∨ i = 1 by omega) with rfl | rfl
  · exact new_cell _ _ _ _ _ rfl
  · exact new_cell _ _ _ _ _ rfl
/-- Fed for the first time. -/
theorem wk15a {lo : Nat} {w : World} {M L : Nat} {d : List Nat} (h : MP lo w M L 2 4602678819172646912 false d) : Calls Try.prog 15 #[.pointer (some ⟨M, 0, none⟩), .slice (some ⟨w.heap.size, 0, none⟩) 2 2] (w.alloc (.cells #[.float .f64 4616189618054758400, .float .f64 4620693217682128896] 26))
    (fun e w' => ∃ g cap d', e = .returned (.tuple #[.slice (some ⟨g, 0, none⟩) 2 cap, .int .i64 0]) ∧ Hid (w'.cell? ⟨g, 0, none⟩ = some (.float .f64 0)) ∧ Hid (MP lo w' M L 2 4602678819172646912 true d') ∧ Hid (Two M L w w') ∧ Hid (w.heap.size ≤ g) ∧ Hid (ab d'[0]! = some 4616189618054758400 ∧ ab d'[1]! = some 4620693217682128896)) := by
  have hm := h.lt
  have hl := h.lt2.2
  refine (t15f (lv := fun _ => none) (h.up (Up.alloc _ _)) (rf_two w _ _ _) (by omega) (by omega) (by omega) (by omega)).mono ?_
  rintro e w' ⟨g, cap, d', ov, rfl, HO, HM, HT, HV, HD⟩
  have v0 : overF false (fun _ => none) (two 4616189618054758400 4620693217682128896) 0 = some 0 := by decide +kernel
  have n0 : nextF (ab 4602678819172646912) false (fun _ => none) (two 4616189618054758400 4620693217682128896) 0 = some 4616189618054758400 := by decide +kernel
  have n1 : nextF (ab 4602678819172646912) false (fun _ => none) (two 4616189618054758400 4620693217682128896) 1 = some 4620693217682128896 := by decide +kernel
  refine ⟨g, cap, d', rfl, ?_, HM, (Two.of_up (Up.alloc _ _)).trans HT.out, ?_, (HD.out 0 (by omega)).trans n0, (HD.out 1 (by omega)).trans n1⟩
  · have q := HO.out.cell (i := 0) (by rw [OR.len HO.out]; omega)
    show _ = _
    rw [q, of_ab ((HV.out 0 (by omega)).trans v0)]
  · have q1 := (OR.at_ HO.out).1
    have q2 := (Up.alloc w (.cells #[.float .f64 4616189618054758400, .float .f64 4620693217682128896] 26)).size
    exact Nat.le_trans q2 q1
/-- And once more. -/
theorem wk15b {lo : Nat} {w : World} {M L : Nat} {d : List Nat} (h : MP lo w M L 2 4602678819172646912 true d) (h0 : ab d[0]! = some 4616189618054758400) (h1 : ab d[1]! = some 4620693217682128896) : Calls Try.prog 15 #[.pointer (some ⟨M, 0, none⟩), .slice (some ⟨w.heap.size, 0, none⟩) 2 2] (w.alloc (.cells #[.float .f64 4620693217682128896, .float .f64 4620693217682128896] 26))
    (fun e w' => ∃ g cap d', e = .returned (.tuple #[.slice (some ⟨g, 0, none⟩) 2 cap, .int .i64 0]) ∧ Hid (w'.cell? ⟨g, 0, none⟩ = some (.float .f64 4616189618054758400)) ∧ Hid (MP lo w' M L 2 4602678819172646912 true d') ∧ Hid (Two M L w w') ∧ Hid (d'[0]! = 4618441417868443648)) := by
  have hm := h.lt
  have hl := h.lt2.2
  refine (t15t (lv := fun i => if i = 0 then some 4616189618054758400 else some 4620693217682128896) (h.up (Up.alloc _ _)) (fun i hi => ?_) (rf_two w _ _ _) (by omega) (by omega) (by omega) (by omega)).mono ?_
  · rcases (show i = 0 ∨ i = 1 by omega) with rfl | rfl
    · exact h0
    · exact h1
  rintro e w' ⟨g, cap, d', ov, rfl, HO, HM, HT, HV, HD⟩
  have v0 : overF true (fun i => if i = 0 then some 4616189618054758400 else some 4620693217682128896) (two 4620693217682128896 4620693217682128896) 0 = some 4616189618054758400 := by decide +kernel
  have n0 : nextF (ab 4602678819172646912) true (fun i => if i = 0 then some 4616189618054758400 else some 4620693217682128896) (two 4620693217682128896 4620693217682128896) 0 = some 4618441417868443648 := by decide +kernel
  refine ⟨g, cap, d', rfl, ?_, HM, (Two.of_up (Up.alloc _ _)).trans HT.out, of_ab ((HD.out 0 (by omega)).trans n0)⟩
  have q := HO.out.cell (i := 0) (by rw [OR.len HO.out]; omega)
  show _ = _
  rw [q, of_ab ((HV.out 0 (by omega)).trans v0)]
theorem share_half : shareF (ab 4602678819172646912) = true := by decide +kernel
set_option maxRecDepth 20000 in
set_option maxHeartbeats 2000000 in
theorem t11 (w : World) : Calls Try.prog 11 #[] w (YS w) := by
  have g1 : eqF (ab 0) (ab 0) = true := by decide +kernel
  have g2 : eqF (ab 4613937818241073152) (ab 4613937818241073152) = true := by decide +kernel
  have g3 : eqF (ab 4617315517961601024) (ab 4617315517961601024) = true := by decide +kernel
  have g4 : eqF (ab 4616189618054758400) (ab 4616189618054758400) = true := by decide +kernel
  have g5 : eqF (ab 4618441417868443648) (ab 4618441417868443648) = true := by decide +kernel
  go_enter Try.func11, Try.ntmps11
  go_wp2_with (first
    | (go_at_call 22; (refine (wk22 w).mono ?_); rintro e w1 ⟨A, b1, b2, rfl, U1, HC⟩
       obtain ⟨a1, a2, a3, a4, a5⟩ := HC.out
       have HL : Hid (A < w1.heap.size ∧ b1 < w1.heap.size ∧ b2 < w1.heap.size) := ⟨World.block_lt_of_cell? w1 _ a1, World.block_lt_of_cell? w1 _ a3, World.block_lt_of_cell? w1 _ a4⟩
       clear HC)
    | (go_at_call 12; (refine (t12 2 4602678819172646912 w1 (by omega) (by omega) share_half).mono ?_); rintro e w2 ⟨M, L, rfl, HM, U2⟩
       have HNE : Hid (A ≠ M ∧ A ≠ L ∧ b1 ≠ M ∧ b1 ≠ L ∧ b2 ≠ M ∧ b2 ≠ L) := by
         have q1 := HM.out.lo
         have q2 := HM.out.lt2.1
         have q3 := HL.out
         show _ ∧ _
         omega
       replace a1 := cell_up a1 U2.out
       replace a2 := cell_up a2 U2.out
       replace a3 := cell_up a3 U2.out
       replace a4 := cell_up a4 U2.out
       replace a5 := cell_up a5 U2.out)
    | (go_at_call 15; (fail_if_success have := HG); (refine (wk15a HM.out).mono ?_); rintro e w3 ⟨G, cG, d, rfl, HG, HM3, HT3, HL3, HD3⟩
       replace a1 := HT3.out.cell HNE.out.1 HNE.out.2.1 a1
       replace a2 := HT3.out.cell HNE.out.1 HNE.out.2.1 a2
       replace a3 := HT3.out.cell HNE.out.2.2.1 HNE.out.2.2.2.1 a3
       replace a4 := HT3.out.cell HNE.out.2.2.2.2.1 HNE.out.2.2.2.2.2 a4
       replace a5 := HT3.out.cell HNE.out.2.2.2.2.1 HNE.out.2.2.2.2.2 a5)
    | (go_at_call 15; (refine (wk15b HM3.out HD3.out.1 HD3.out.2).mono ?_); rintro e w4 ⟨G4, c4, d4, rfl, HG4, HM4, HT4, HD4⟩
       replace a1 := HT4.out.cell HNE.out.1 HNE.out.2.1 a1
       replace a2 := HT4.out.cell HNE.out.1 HNE.out.2.1 a2
       replace a3 := HT4.out.cell HNE.out.2.2.1 HNE.out.2.2.2.1 a3
       replace a4 := HT4.out.cell HNE.out.2.2.2.2.1 HNE.out.2.2.2.2.2 a4
       replace a5 := HT4.out.cell HNE.out.2.2.2.2.1 HNE.out.2.2.2.2.2 a5
       have x1 : w4.cell? ⟨G, 0, none⟩ = some (.float .f64 0) := by
         have q1 := HM.out.lt
         have q2 := HM.out.lt2.2
         have q3 := HL3.out
         exact HT4.out.cell (by omega) (by omega) HG.out
       have x2 := HG4.out)
    | (go_at_call 17; (refine (t17 HM4.out (k := 0) (by omega)).mono ?_); rintro e w5 ⟨rfl, hw⟩; subst w5; rw [HD4.out])
    | (go_at_call 9; (refine (t9 (n := 2) (by omega) _).mono ?_); rintro e w6 ⟨p6, c6, rfl, HO6, U6⟩))
  go_ret
  refine ⟨rfl, ?_⟩
  have q1 := HM.out.lo
  have q2 := HM.out.lt2.1
  have q3 := U1.out.size
  exact ((HT4.out.up (HT3.out.up (U1.out.trans U2.out) (by omega) (by omega)) (by omega) (by omega))).trans U6.out
end Go.Proofs.Ytgalgnopjcpocaa

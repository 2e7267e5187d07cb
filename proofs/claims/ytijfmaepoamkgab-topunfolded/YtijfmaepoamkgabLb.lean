/- Whether a beat may be: the program's Check and the reference's. -/
import Derived.Test.YtijfmaepoamkgabLa
import Derived.Test.YtijfmaepoamkgabFr
namespace Go.Proofs.Ytijfmaepoamkgab.Gt
open Go.ChangeShapes Go.WideShapes Go.ChangeAt Go.RowKit Go.Fl Ieee
attribute [local go_sem] run_store_float call18 call17 run_neg fold_eq fold_ne fold_lt fold_gt abs_eq

/-- Finite and above 0. -/
def goodF (x : Option Nat) : Bool := fin x && gtF x (ab 0)
/-- Check's answer. -/
def checkF (c v r : Option Nat) (E R : Int) : Int :=
  if goodF c = true ∧ goodF v = true ∧ goodF r = true ∧ 1 ≤ E ∧ E ≤ 16384 ∧ 1 ≤ R ∧ R ≤ 256 then (if E * R > 262144 then 3 else 0) else 80
theorem zero_fnt : Fnt 0 := by unfold Fnt; decide
theorem leq_good {x : Nat} (h : fin (ab x) = true) : (ltF (ab x) (ab 0) || eqF (ab x) (ab 0)) = !gtF (ab x) (ab 0) := by
  have hx := fin_iff h
  rw [ltF_val hx zero_fnt, eqF_val hx zero_fnt, gtF_val hx zero_fnt, val0]
  rcases (Rat.le_total : val x ≤ 0 ∨ 0 ≤ val x) with h | h
  · by_cases h0 : val x = 0
    · simp [h0]
    · have h1 : val x < 0 := Rat.lt_of_le_of_ne h h0
      have h2 : ¬ 0 < val x := by grind
      simp [h1, h2]
  · by_cases h0 : val x = 0
    · simp [h0]
    · have h1 : 0 < val x := Rat.lt_of_le_of_ne h (fun e => h0 e.symm)
      have h2 : ¬ val x < 0 := by grind
      simp [h1, h2, h0]
theorem bad_leq {x : Nat} (h : fin (ab x) = true) (h2 : (ltF (ab x) (ab 0) || eqF (ab x) (ab 0)) = true) : goodF (ab x) = false := by
  rw [leq_good h] at h2
  simp [goodF]; intro _; simpa using h2
theorem good_leq {x : Nat} (h : fin (ab x) = true) (h2 : (ltF (ab x) (ab 0) || eqF (ab x) (ab 0)) = false) : goodF (ab x) = true := by
  rw [leq_good h] at h2
  simp [goodF, h]; simpa using h2
theorem bad_fin {x : Nat} (h : fin (ab x) = false) : goodF (ab x) = false := by simp [goodF, h]
theorem bad_gt {x : Nat} (h2 : gtF (ab x) (ab 0) = false) : goodF (ab x) = false := by simp [goodF, h2]
theorem good_gt {x : Nat} (h : fin (ab x) = true) (h2 : gtF (ab x) (ab 0) = true) : goodF (ab x) = true := by simp [goodF, h, h2]
theorem check80 {c v r : Option Nat} {E R : Int} (h : goodF c = false ∨ goodF v = false ∨ goodF r = false ∨ E < 1 ∨ 16384 < E ∨ R < 1 ∨ 256 < R) : checkF c v r E R = 80 := by
  unfold checkF
  rw [if_neg]
  rintro ⟨a1, a2, a3, a4, a5, a6, a7⟩
  rcases h with h | h | h | h | h | h | h
  · rw [a1] at h; cases h
  · rw [a2] at h; cases h
  · rw [a3] at h; cases h
  all_goals omega
theorem check_in {c v r : Option Nat} {E R : Int} (h1 : goodF c = true) (h2 : goodF v = true) (h3 : goodF r = true) (h4 : 1 ≤ E) (h5 : E ≤ 16384) (h6 : 1 ≤ R) (h7 : R ≤ 256) : checkF c v r E R = if E * R > 262144 then 3 else 0 := by
  unfold checkF; rw [if_pos ⟨h1, h2, h3, h4, h5, h6, h7⟩]

theorem run_index3 (w : World) (x y z : Nat) (c : Nat) (hc : c < 3) : (Instr.index 98 (.agg #[.float .f64 x, .float .f64 y, .float .f64 z]) (.int .i64 c)).run Try.prog w = .ok (.float .f64 (if c = 0 then x else if c = 1 then y else z)) w := by
  rcases (show c = 0 ∨ c = 1 ∨ c = 2 by omega) with rfl | rfl | rfl <;> kernel_rfl
theorem wpList_index3 {ops : Array Oper} {rest : List Oper} {o : Oper} {a : Act} {Q : Exit → Act → World → Prop} {w : World} {x y z : Nat} (c v : Nat) (hv : (if c = 0 then x else if c = 1 then y else z) = v) (hgd : o.guard = none) (s i : Operand)
    (hop : o.op = Op.index 98 s i) (hs : a.eval s = .agg #[.float .f64 x, .float .f64 y, .float .f64 z]) (hx : a.eval i = .int .i64 c) (hc : c < 3)
    (hK : wpList Try.prog ops Q rest (a.put o.dst (.float .f64 v)) w) : wpList Try.prog ops Q (o :: rest) a w := by
  refine wpList_plain hgd fun K hK' => ?_
  unfold Oper.wp
  simp only [execOp, hop, hs, hx]
  have e := run_index3 w x y z c hc
  rw [hv] at e
  simp [e, Result.andThen]
  exact hK' _ _ hK
theorem run_index2 (w : World) (x y z t : Int) (c : Nat) (hc : c < 2) : (Instr.index 100 (.agg #[.int .i64 x, .int .i64 y, .int .i64 z, .int .i64 t]) (.int .i64 c)).run Try.prog w = .ok (.agg (if c = 0 then #[.int .i64 x, .int .i64 y] else #[.int .i64 z, .int .i64 t])) w := by
  rcases (show c = 0 ∨ c = 1 by omega) with rfl | rfl <;> kernel_rfl
theorem wpList_index2 {ops : Array Oper} {rest : List Oper} {o : Oper} {a : Act} {Q : Exit → Act → World → Prop} {w : World} {x y z t : Int} (c : Nat) (v : Array Value) (hv : (if c = 0 then #[Value.int .i64 x, .int .i64 y] else #[.int .i64 z, .int .i64 t]) = v) (hgd : o.guard = none) (s i : Operand)
    (hop : o.op = Op.index 100 s i) (hs : a.eval s = .agg #[.int .i64 x, .int .i64 y, .int .i64 z, .int .i64 t]) (hx : a.eval i = .int .i64 c) (hc : c < 2)
    (hK : wpList Try.prog ops Q rest (a.put o.dst (.agg v)) w) : wpList Try.prog ops Q (o :: rest) a w := by
  refine wpList_plain hgd fun K hK' => ?_
  unfold Oper.wp
  simp only [execOp, hop, hs, hx]
  have e := run_index2 w x y z t c hc
  rw [hv] at e
  simp [e, Result.andThen]
  exact hK' _ _ hK
/-- A beat's cells, as they lie in memory. -/
structure BC (w : World) (b c v r : Nat) (E R : Int) : Prop where
  c0 : w.cell? ⟨b, 0, none⟩ = some (.float .f64 c)
  c1 : w.cell? ⟨b, 1, none⟩ = some (.float .f64 v)
  c2 : w.cell? ⟨b, 2, none⟩ = some (.float .f64 r)
  c3 : w.cell? ⟨b, 3, none⟩ = some (.int .i64 E)
  c4 : w.cell? ⟨b, 4, none⟩ = some (.int .i64 R)
theorem up_cell {w w' : World} (h : Up w w') {b o : Nat} {v : Value} (hc : w.cell? ⟨b, o, none⟩ = some v) : w'.cell? ⟨b, o, none⟩ = some v := by
  have hb : b < w.heap.size := by
    unfold World.cell? at hc
    rcases Nat.lt_or_ge b w.heap.size with h | h
    · exact h
    · rw [Array.getElem?_eq_none h] at hc; simp at hc
  rw [← hc]
  unfold World.cell?
  rw [h.block _ hb]
theorem BC.up {w w' : World} {b c v r : Nat} {E R : Int} (h : BC w b c v r E R) (hu : Up w w') : BC w' b c v r E R :=
  ⟨up_cell hu h.c0, up_cell hu h.c1, up_cell hu h.c2, up_cell hu h.c3, up_cell hu h.c4⟩
theorem BC.new (w : World) (c v r : Nat) (E R : Int) : BC (w.alloc (.cells #[.float .f64 c, .float .f64 v, .float .f64 r, .int .i64 E, .int .i64 R] 38)) w.heap.size c v r E R := by
  have e := heap_alloc_last w (.cells #[.float .f64 c, .float .f64 v, .float .f64 r, .int .i64 E, .int .i64 R] 38)
  constructor <;> (unfold World.cell?; simp only [e]; rfl)
end Go.Proofs.Ytijfmaepoamkgab.Gt
/- The program's Check and the reference's, walked. -/
namespace Go.Proofs.Ytijfmaepoamkgab.Gt
open Go.ChangeShapes Go.WideShapes Go.ChangeAt Go.RowKit Go.Fl Ieee
attribute [local go_sem] run_store_float call18 call17 run_neg fold_eq fold_ne fold_lt fold_gt abs_eq

def IU (w : World) (z : Int) (e : Ending) (w' : World) : Prop := e = .returned (.int .i64 z) ∧ Hid (Up w w')
/-- How many of a beat's floats are known to be good. -/
def G3 (z : Int) (c v r : Nat) : Prop := (1 ≤ z → goodF (ab c) = true) ∧ (2 ≤ z → goodF (ab v) = true) ∧ (3 ≤ z → goodF (ab r) = true)
theorem G3.zero (c v r : Nat) : G3 0 c v r := ⟨fun h => by omega, fun h => by omega, fun h => by omega⟩
theorem G3.one {c v r : Nat} (h : goodF (ab c) = true) : G3 1 c v r := ⟨fun _ => h, fun h => by omega, fun h => by omega⟩
theorem G3.two {c v r : Nat} (g : G3 1 c v r) (h : goodF (ab v) = true) : G3 2 c v r := ⟨fun _ => g.1 (by omega), fun _ => h, fun h => by omega⟩
theorem G3.three {c v r : Nat} (g : G3 2 c v r) (h : goodF (ab r) = true) : G3 3 c v r := ⟨fun _ => g.1 (by omega), fun _ => g.2.1 (by omega), fun _ => h⟩
set_option maxHeartbeats 1000000 in
theorem t33 (c v r : Nat) (E R : Int) (w : World) : Calls Try.prog 33 #[.agg #[.float .f64 c, .float .f64 v, .float .f64 r, .int .i64 E, .int .i64 R]] w (IU w (checkF (ab c) (ab v) (ab r) E R)) := by
  have HB := BC.new w c v r E R
  have HU : Hid (Up w (w.alloc (.cells #[.float .f64 c, .float .f64 v, .float .f64 r, .int .i64 E, .int .i64 R] 38))) := Up.alloc _ _
  obtain ⟨b0, b1, b2, b3, b4⟩ := HB
  go_enter Try.func33, Try.ntmps33
  go_wp2
  generalize w.alloc (.cells #[.float .f64 c, .float .f64 v, .float .f64 r, .int .i64 E, .int .i64 R] 38) = w1 at *
  generalize w.heap.size = s0 at *
  go_loopw [4, 14] (fun _ vi wr => ∃ z : Int, (z = 0 ∨ z = 1 ∨ z = 2 ∨ z = 3) ∧ vi = .int .i64 z ∧ w1 = wr ∧ Hid (G3 z c v r)) (fun _ vi _ => 3 - (intOf vi).toNat)
  case atStart => exact ⟨0, by omega, rfl, rfl, G3.zero _ _ _⟩
  case round =>
    obtain ⟨z, hz, rfl, hw, HG⟩ := hrel
    subst hw
    rcases hz with rfl | rfl | rfl | rfl
    · go_wp2_with (first
        | (refine wpList_index3 0 c rfl rfl _ _ rfl rfl rfl (by omega) ?_)
        | (go_at_call 48; (with_reducible refine (t48 c _).mono ?_); rintro e w' ⟨rfl, rfl⟩))
      · have hb : goodF (ab c) = false := bad_leq (by simp_all) (by simp_all)
        go_ret
        exact ⟨by rw [check80 (Or.inl hb)]; rfl, HU⟩
      · have hb : goodF (ab c) = true := good_leq (by simp_all) (by simp_all)
        go_roundw
        case rel => exact ⟨1, by omega, rfl, by simp, G3.one hb⟩
        case measure => simp [intOf]
      · have hb : goodF (ab c) = false := bad_fin (by simp_all)
        go_ret
        exact ⟨by rw [check80 (Or.inl hb)]; rfl, HU⟩
    · go_wp2_with (first
        | (refine wpList_index3 1 v rfl rfl _ _ rfl rfl rfl (by omega) ?_)
        | (go_at_call 48; (with_reducible refine (t48 v _).mono ?_); rintro e w' ⟨rfl, rfl⟩))
      · have hb : goodF (ab v) = false := bad_leq (by simp_all) (by simp_all)
        go_ret
        exact ⟨by rw [check80 (Or.inr (Or.inl hb))]; rfl, HU⟩
      · have hb : goodF (ab v) = true := good_leq (by simp_all) (by simp_all)
        go_roundw
        case rel => exact ⟨2, by omega, rfl, by simp, G3.two HG.out hb⟩
        case measure => simp [intOf]
      · have hb : goodF (ab v) = false := bad_fin (by simp_all)
        go_ret
        exact ⟨by rw [check80 (Or.inr (Or.inl hb))]; rfl, HU⟩
    · go_wp2_with (first
        | (refine wpList_index3 2 r rfl rfl _ _ rfl rfl rfl (by omega) ?_)
        | (go_at_call 48; (with_reducible refine (t48 r _).mono ?_); rintro e w' ⟨rfl, rfl⟩))
      · have hb : goodF (ab r) = false := bad_leq (by simp_all) (by simp_all)
        go_ret
        exact ⟨by rw [check80 (Or.inr (Or.inr (Or.inl hb)))]; rfl, HU⟩
      · have hb : goodF (ab r) = true := good_leq (by simp_all) (by simp_all)
        go_roundw
        case rel => exact ⟨3, by omega, rfl, by simp, G3.three HG.out hb⟩
        case measure => simp [intOf]
      · have hb : goodF (ab r) = false := bad_fin (by simp_all)
        go_ret
        exact ⟨by rw [check80 (Or.inr (Or.inr (Or.inl hb)))]; rfl, HU⟩
    · obtain ⟨g1, g2, g3⟩ := HG.out
      have G1 : Hid (goodF (ab c) = true) := g1 (by omega)
      have G2 : Hid (goodF (ab v) = true) := g2 (by omega)
      have G3 : Hid (goodF (ab r) = true) := g3 (by omega)
      clear g1 g2 g3 HG
      go_wp2
      go_loopw [6, 32] (fun _ vi wr => ∃ z : Int, (z = 0 ∨ z = 1 ∨ z = 2) ∧ vi = .int .i64 z ∧ Hid (Up w1 wr) ∧ Hid (1 ≤ z → 1 ≤ E ∧ E ≤ 16384) ∧ Hid (2 ≤ z → 1 ≤ R ∧ R ≤ 256)) (fun _ vi _ => 2 - (intOf vi).toNat)
      case atStart => exact ⟨0, by omega, rfl, Up.refl _, fun h => by omega, fun h => by omega⟩
      case round =>
        obtain ⟨z, hz, rfl, HV, HE, HR⟩ := hrel
        rcases hz with rfl | rfl | rfl
        · go_wp2_with (first
            | (refine wpList_index2 0 #[.int .i64 E, .int .i64 16384] rfl rfl _ _ rfl rfl rfl (by omega) ?_))
          · go_ret
            exact ⟨by rw [check80 (Or.inr (Or.inr (Or.inr (Or.inr (Or.inl (by first | (simp_all; done) | (simp_all; omega)))))))]; rfl, (HU.out.trans HV.out).trans (Up.alloc _ _)⟩
          · go_roundw
            case rel => exact ⟨1, by omega, rfl, HV.out.trans (Up.alloc _ _), fun _ => ⟨by first | (simp_all; done) | (simp_all; omega), by first | (simp_all; done) | (simp_all; omega)⟩, fun h => by omega⟩
            case measure => simp [intOf]
          · go_ret
            exact ⟨by rw [check80 (Or.inr (Or.inr (Or.inr (Or.inl (by first | (simp_all; done) | (simp_all; omega))))))]; rfl, (HU.out.trans HV.out).trans (Up.alloc _ _)⟩
        · go_wp2_with (first
            | (refine wpList_index2 1 #[.int .i64 R, .int .i64 256] rfl rfl _ _ rfl rfl rfl (by omega) ?_))
          · go_ret
            exact ⟨by rw [check80 (Or.inr (Or.inr (Or.inr (Or.inr (Or.inr (Or.inr (by first | (simp_all; done) | (simp_all; omega))))))))]; rfl, (HU.out.trans HV.out).trans (Up.alloc _ _)⟩
          · go_roundw
            case rel => exact ⟨2, by omega, rfl, HV.out.trans (Up.alloc _ _), fun _ => HE.out (by omega), fun _ => ⟨by first | (simp_all; done) | (simp_all; omega), by first | (simp_all; done) | (simp_all; omega)⟩⟩
            case measure => simp [intOf]
          · go_ret
            exact ⟨by rw [check80 (Or.inr (Or.inr (Or.inr (Or.inr (Or.inr (Or.inl (by first | (simp_all; done) | (simp_all; omega))))))))]; rfl, (HU.out.trans HV.out).trans (Up.alloc _ _)⟩
        · obtain ⟨e1, e2⟩ := HE.out (by omega)
          obtain ⟨r1, r2⟩ := HR.out (by omega)
          have c3 := up_cell HV.out b3
          have c4 := up_cell HV.out b4
          have HC : Hid (checkF (ab c) (ab v) (ab r) E R = if E * R > 262144 then 3 else 0) := check_in G1.out G2.out G3.out e1 e2 r1 r2
          have m1 := Int.mul_le_mul e2 r2 (by omega) (by omega)
          have m2 := Int.mul_nonneg (show 0 ≤ E by omega) (show 0 ≤ R by omega)
          go_wp2
          · go_ret
            exact ⟨by rw [HC.out, if_pos (by simp_all)]; rfl, HU.out.trans HV.out⟩
          · go_ret
            exact ⟨by rw [HC.out, if_neg (by simp_all)]; rfl, HU.out.trans HV.out⟩
end Go.Proofs.Ytijfmaepoamkgab.Gt
/- The reference's Check, walked. -/
namespace Go.Proofs.Ytijfmaepoamkgab.Gt
open Go.ChangeShapes Go.WideShapes Go.ChangeAt Go.RowKit Go.Fl Ieee
attribute [local go_sem] run_store_float call18 call17 run_neg fold_eq fold_ne fold_lt fold_gt abs_eq

end Go.Proofs.Ytijfmaepoamkgab.Gt

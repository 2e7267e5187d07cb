/- Rounding keeps an order; quotients and roots. No program is spoken of here. -/
import Derived.Test.YtflngnnoibkkoaaGreatBg
import Derived.Test.YtflngnnoibkkoaaGreatE
import Derived.Test.YtflngnnoibkkoaaGreatVd
import Derived.Test.YtflngnnoibkkoaaGreatM
namespace Go.Fl
open Ieee Go.RowKit
set_option maxRecDepth 200000
set_option maxHeartbeats 8000000

theorem mag_dvd {r L : Nat} (h : 2 ^ (52 + L) ≤ mag r) : ∃ c, mag r = c * 2 ^ L := by
  unfold mag at *
  split at h
  · rename_i h1
    have h2 : 2 ^ 52 ≤ 2 ^ (52 + L) := Nat.pow_le_pow_right (by omega) (by omega)
    omega
  · rename_i h1
    rw [if_neg h1]
    have hlt : 2 ^ 52 + r % 2 ^ 52 < 2 ^ 53 := by
      have := Nat.mod_lt r (show 0 < 2 ^ 52 by omega)
      omega
    generalize r / 2 ^ 52 - 1 = k at *
    rcases Nat.lt_or_ge k L with hk | hk
    · exfalso
      have a1 := Nat.mul_lt_mul_of_pos_right hlt (Nat.two_pow_pos k)
      rw [← Nat.pow_add] at a1
      have a2 : 2 ^ (53 + k) ≤ 2 ^ (52 + L) := Nat.pow_le_pow_right (by omega) (by omega)
      omega
    · refine ⟨(2 ^ 52 + r % 2 ^ 52) * 2 ^ (k - L), ?_⟩
      rw [Nat.mul_assoc, ← Nat.pow_add]
      congr 2
      omega
/-- A float's magnitude as a number. -/
theorem val_cases (x : Nat) : val x = (mag (x % 2 ^ 63) : Rat) * pw (-1074) ∨ val x = -((mag (x % 2 ^ 63) : Rat) * pw (-1074)) := by
  unfold val
  cases (x / 2 ^ 63 % 2 == 1)
  · left; rfl
  · right
    show ((-(mag (x % 2 ^ 63) : Int) : Int) : Rat) * pw (-1074) = _
    rw [Rat.intCast_neg, Rat.neg_mul]; rfl
/-- A float that is not below a binade's least one is a whole number of its units. -/
theorem whole_units {y : Nat} {last : Int} {Y : Rat} (hl : -1074 ≤ last) (hY : val y = Y ∨ val y = -Y) (h0 : 0 ≤ Y) (hb : last = -1074 ∨ pw (last + 52) ≤ Y) : ∃ c : Nat, Y = (c : Rat) * pw last := by
  have hp := pw_pos (-1074)
  have hm : Y = (mag (y % 2 ^ 63) : Rat) * pw (-1074) := by
    have h1 : 0 ≤ (mag (y % 2 ^ 63) : Rat) * pw (-1074) := Rat.mul_nonneg Rat.natCast_nonneg (Rat.le_of_lt hp)
    rcases val_cases y with h | h <;> rcases hY with h2 | h2 <;> grind
  rcases hb with h | h
  · rw [h]; exact ⟨_, hm⟩
  · obtain ⟨L, hL⟩ := Int.eq_ofNat_of_zero_le (show 0 ≤ last + 1074 by omega)
    have hpl : pw last = ((2 ^ L : Nat) : Rat) * pw (-1074) := by
      rw [pw_split hl, show (last - -1074).toNat = L by omega]
    have h2 : pw (last + 52) = ((2 ^ (52 + L) : Nat) : Rat) * pw (-1074) := by
      rw [pw_split (show (-1074 : Int) ≤ last + 52 by omega), show (last + 52 - -1074).toNat = 52 + L by omega]
    have h3 : 2 ^ (52 + L) ≤ mag (y % 2 ^ 63) := by
      rcases Nat.lt_or_ge (mag (y % 2 ^ 63)) (2 ^ (52 + L)) with h4 | h4
      · exfalso
        have := Rat.mul_lt_mul_of_pos_right (Rat.natCast_lt_natCast.2 h4) hp
        grind
      · exact h4
    obtain ⟨c, hc⟩ := mag_dvd h3
    refine ⟨c, ?_⟩
    rw [hm, hc, hpl, Rat.natCast_mul, Rat.mul_assoc]
theorem nat_step {a b : Nat} {p : Rat} (hp : 0 < p) (h : (a : Rat) * p < (b : Rat) * p) : (a : Rat) * p + p ≤ (b : Rat) * p := by
  have h1 : a < b := by
    rcases Nat.lt_or_ge a b with h1 | h1
    · exact h1
    · exfalso
      have := Rat.mul_le_mul_of_nonneg_right (Rat.natCast_le_natCast.2 h1) (Rat.le_of_lt hp)
      grind
  have h2 : ((a + 1 : Nat) : Rat) ≤ (b : Rat) := Rat.natCast_le_natCast.2 h1
  have h3 := Rat.mul_le_mul_of_nonneg_right h2 (Rat.le_of_lt hp)
  rw [Rat.natCast_add, Rat.add_mul] at h3
  have e : ((1 : Nat) : Rat) * p = p := Rat.one_mul p
  grind
theorem Rounds.mono {s : Bool} {m : Nat} {e : Int} {r : Nat} {last : Int} {kept : Nat} (h : Rounds s m e r last kept) {y : Nat} : (dv s m e ≤ val y → val r ≤ val y) ∧ (val y ≤ dv s m e → val y ≤ val r) := by
  have hp := pw_pos last
  have hup := h.up
  have hdn := h.down
  have hk0 : 0 ≤ (kept : Rat) * pw last := Rat.mul_nonneg Rat.natCast_nonneg (Rat.le_of_lt hp)
  have hm0 : 0 ≤ (m : Rat) * pw e := Rat.mul_nonneg Rat.natCast_nonneg (Rat.le_of_lt (pw_pos e))
  have hk52 : last = -1074 ∨ pw (last + 52) ≤ (kept : Rat) * pw last := by
    rcases h.low with h1 | h1
    · exact Or.inl h1
    · right
      have := Rat.mul_le_mul_of_nonneg_right (Rat.natCast_le_natCast.2 h1) (Rat.le_of_lt hp)
      have e1 : pw (last + 52) = ((2 ^ 52 : Nat) : Rat) * pw last := by
        rw [pw_split (show last ≤ last + 52 by omega), show (last + 52 - last).toNat = 52 by omega]
      rw [e1]; exact this
  -- a float from v on, or from the rounded number on, is a whole number of units
  have up_units : ∀ Y : Rat, (val y = Y ∨ val y = -Y) → 0 ≤ Y → ((m : Rat) * pw e ≤ Y ∨ (kept : Rat) * pw last ≤ Y) → ∃ c : Nat, Y = (c : Rat) * pw last := by
    intro Y hY h0 hb
    refine whole_units h.least hY h0 ?_
    rcases hb with hb | hb
    · rcases h.rel with h1 | h1
      · exact Or.inl h1
      · exact Or.inr (Rat.le_trans h1 hb)
    · rcases hk52 with h1 | h1
      · exact Or.inl h1
      · exact Or.inr (Rat.le_trans h1 hb)
  -- above: v ≤ Y < kept: impossible; below: kept < Y ≤ v: impossible
  have no_up : ∀ Y : Rat, (val y = Y ∨ val y = -Y) → 0 ≤ Y → (m : Rat) * pw e ≤ Y → (kept : Rat) * pw last ≤ Y := by
    intro Y hY h0 hb
    obtain ⟨c, hc⟩ := up_units Y hY h0 (Or.inl hb)
    rcases Rat.le_total (a := (kept : Rat) * pw last) (b := Y) with h1 | h1
    · exact h1
    · by_cases heq : Y = (kept : Rat) * pw last
      · grind
      · have hlt : Y < (kept : Rat) * pw last := by grind
        rw [hc] at hlt
        have := nat_step hp hlt
        grind
  have no_dn : ∀ Y : Rat, (val y = Y ∨ val y = -Y) → 0 ≤ Y → Y ≤ (m : Rat) * pw e → Y ≤ (kept : Rat) * pw last := by
    intro Y hY h0 hb
    rcases Rat.le_total (a := Y) (b := (kept : Rat) * pw last) with h1 | h1
    · exact h1
    · by_cases heq : Y = (kept : Rat) * pw last
      · grind
      · have hlt : (kept : Rat) * pw last < Y := by grind
        obtain ⟨c, hc⟩ := up_units Y hY h0 (Or.inr h1)
        rw [hc] at hlt
        have := nat_step hp hlt
        grind
  rw [h.value]
  cases s
  · rw [dv_false, dv_false]
    constructor
    · intro hv
      exact no_up (val y) (Or.inl rfl) (by grind) hv
    · intro hv
      rcases Rat.le_total (a := val y) (b := 0) with h1 | h1
      · grind
      · exact no_dn (val y) (Or.inl rfl) h1 hv
  · rw [dv_true, dv_true]
    constructor
    · intro hv
      rcases Rat.le_total (a := val y) (b := 0) with h1 | h1
      · have := no_dn (-val y) (Or.inr (by grind)) (by grind) (by grind)
        grind
      · grind
    · intro hv
      have := no_up (-val y) (Or.inr (by grind)) (by grind) (by grind)
      grind
theorem write_mono (s : Bool) (m : Nat) (e : Int) (hB : (m : Rat) * pw e ≤ pw 1000) {y : Nat} : (dv s m e ≤ val y → val (double.write (.number s m e)) ≤ val y) ∧ (val y ≤ dv s m e → val y ≤ val (double.write (.number s m e))) := by
  show (_ → val (double.nearest s m e) ≤ _) ∧ (_ → _ ≤ val (double.nearest s m e))
  rcases Nat.eq_zero_or_pos m with h0 | h0
  · subst h0
    have e1 : double.nearest s 0 e = double.word s 0 := by simp [Format.nearest]
    have e2 : dv s 0 e = 0 := by cases s <;> simp [dv, sgn]
    rw [e1, val_zero, e2]
    exact ⟨id, id⟩
  · have hlog : e + m.log2 ≤ 1000 := log_le h0 hB
    obtain ⟨last, kept, hr⟩ := rounds s (e := e) h0 (by omega)
    exact hr.mono
end Go.Fl
/- Quotients and roots, with bounds; products, sums and differences keep an order. No program is spoken of here. -/
namespace Go.Fl
open Ieee Go.RowKit
set_option maxRecDepth 200000
set_option maxHeartbeats 8000000

theorem le_of_mul {a b c : Rat} (hc : 0 < c) (h : a * c ≤ b * c) : a ≤ b := by
  rcases Rat.le_total (a := a) (b := b) with h1 | h1
  · exact h1
  · by_cases he : a = b
    · rw [he]; exact Rat.le_refl
    · have := Rat.mul_lt_mul_of_pos_right (show b < a by grind) hc
      grind
theorem val0 : val 0 = 0 := by decide +kernel
end Go.Fl
/- Rows of floats, folded: how far the outcome is from the polynomial. No program is spoken of here. -/
namespace Go.Fl
open Ieee Go.RowKit
set_option maxRecDepth 200000
set_option maxHeartbeats 8000000

theorem bin_some_mul {x y : Nat} (hx : Fnt x) (hy : Fnt y) : ∃ r, bin .mul (some x) (some y) = some r := by
  obtain ⟨s, m, i, ex⟩ := fin_read hx
  obtain ⟨t, n, j, ey⟩ := fin_read hy
  show ∃ r, double.mul x y = some r
  unfold Format.mul
  rw [ex, ey]
  exact ⟨_, rfl⟩
end Go.Fl
/- A point of the circle, as rational numbers: its parts' squares make 1, but for a little. -/
namespace Go.Proofs.YtflngnnoibkkoaaGreat
open Go.Fl Ieee Go.RowKit
set_option maxRecDepth 200000
set_option maxHeartbeats 8000000

theorem Fnt.ab {x : Nat} (h : Fnt x) : ab x = some x := ab_some h.num
theorem ltF_val {x y : Nat} (hx : Fnt x) (hy : Fnt y) : ltF (ab x) (ab y) = decide (val x < val y) := by
  unfold ltF
  rw [ord_val hx hy]
  by_cases h : val x < val y
  · simp [h]
  · by_cases h2 : val x = val y <;> simp [h, h2]
theorem gtF_val {x y : Nat} (hx : Fnt x) (hy : Fnt y) : gtF (ab x) (ab y) = decide (val y < val x) := by
  unfold gtF
  rw [ord_val hx hy]
  by_cases h : val x < val y
  · have : ¬ val y < val x := by grind
    simp [h, this]
  · by_cases h2 : val x = val y
    · rw [h2]; simp [h2 ▸ h]
    · have : val y < val x := by grind
      simp [h, h2, this]
theorem eqF_val {x y : Nat} (hx : Fnt x) (hy : Fnt y) : eqF (ab x) (ab y) = decide (val x = val y) := by
  unfold eqF
  rw [ord_val hx hy]
  by_cases h : val x < val y
  · have : ¬ val x = val y := by grind
    simp [h, this]
  · by_cases h2 : val x = val y <;> simp [h, h2]
theorem fin_iff {x : Nat} (h : fin (ab x) = true) : Fnt x := by
  obtain ⟨s, m, e, hr⟩ := fin_num h
  exact (read_num hr).2.1
/-! The whole part. -/
end Go.Proofs.YtflngnnoibkkoaaGreat
/- Whether a beat may be: the program's Check and the reference's. -/
namespace Go.Proofs.YtflngnnoibkkoaaGreat
open Go.ChangeShapes Go.WideShapes Go.ChangeAt Go.RowKit Go.Fl Ieee
set_option maxRecDepth 200000
set_option maxHeartbeats 8000000
attribute [local go_sem] run_store_float call34 call33 run_neg fold_eq fold_ne fold_lt fold_gt abs_eq

/-- Finite and above 0. -/
def goodF (x : Option Nat) : Bool := fin x && gtF x (ab 0)
/-- Check's answer. -/
def checkF (c v r : Option Nat) (E R : Int) : Int :=
  if goodF c = true ∧ goodF v = true ∧ goodF r = true ∧ 1 ≤ E ∧ E ≤ 16384 ∧ 1 ≤ R ∧ R ≤ 256 then (if E * R > 262144 then 3 else 0) else 80
theorem zero_fnt : Fnt 0 := by unfold Fnt; decide
theorem leq_good {x : Nat} (h : fin (ab x) = true) : (ltF (ab x) (ab 0) || eqF (ab x) (ab 0)) = !gtF (ab x) (ab 0) := by
  have hx := fin_iff h
  rw [ltF_val hx zero_fnt, eqF_val hx zero_fnt, gtF_val hx zero_fnt, val0]
  rcases (Rat.le_total : val x ≤ 0 ∨ 0 ≤ val x) with h | h
  · by_cases h0 : val x = 0
    · simp [h0]
    · have h1 : val x < 0 := Rat.lt_of_le_of_ne h h0
      have h2 : ¬ 0 < val x := by grind
      simp [h1, h2]
  · by_cases h0 : val x = 0
    · simp [h0]
    · have h1 : 0 < val x := Rat.lt_of_le_of_ne h (fun e => h0 e.symm)
      have h2 : ¬ val x < 0 := by grind
      simp [h1, h2, h0]
theorem bad_leq {x : Nat} (h : fin (ab x) = true) (h2 : (ltF (ab x) (ab 0) || eqF (ab x) (ab 0)) = true) : goodF (ab x) = false := by
  rw [leq_good h] at h2
  simp [goodF]; intro _; simpa using h2
theorem good_leq {x : Nat} (h : fin (ab x) = true) (h2 : (ltF (ab x) (ab 0) || eqF (ab x) (ab 0)) = false) : goodF (ab x) = true := by
  rw [leq_good h] at h2
  simp [goodF, h]; simpa using h2
theorem bad_fin {x : Nat} (h : fin (ab x) = false) : goodF (ab x) = false := by simp [goodF, h]
theorem check80 {c v r : Option Nat} {E R : Int} (h : goodF c = false ∨ goodF v = false ∨ goodF r = false ∨ E < 1 ∨ 16384 < E ∨ R < 1 ∨ 256 < R) : checkF c v r E R = 80 := by
  unfold checkF
  rw [if_neg]
  rintro ⟨a1, a2, a3, a4, a5, a6, a7⟩
  rcases h with h | h | h | h | h | h | h
  · rw [a1] at h; cases h
  · rw [a2] at h; cases h
  · rw [a3] at h; cases h
  all_goals omega
theorem check_in {c v r : Option Nat} {E R : Int} (h1 : goodF c = true) (h2 : goodF v = true) (h3 : goodF r = true) (h4 : 1 ≤ E) (h5 : E ≤ 16384) (h6 : 1 ≤ R) (h7 : R ≤ 256) : checkF c v r E R = if E * R > 262144 then 3 else 0 := by
  unfold checkF; rw [if_pos ⟨h1, h2, h3, h4, h5, h6, h7⟩]

theorem run_index3 (w : World) (x y z : Nat) (c : Nat) (hc : c < 3) : (Instr.index 80 (.agg #[.float .f64 x, .float .f64 y, .float .f64 z]) (.int .i64 c)).run Tryz.prog w = .ok (.float .f64 (if c = 0 then x else if c = 1 then y else z)) w := by
  rcases (show c = 0 ∨ c = 1 ∨ c = 2 by omega) with rfl | rfl | rfl <;> kernel_rfl
theorem wpList_index3 {ops : Array Oper} {rest : List Oper} {o : Oper} {a : Act} {Q : Exit → Act → World → Prop} {w : World} {x y z : Nat} (c v : Nat) (hv : (if c = 0 then x else if c = 1 then y else z) = v) (hgd : o.guard = none) (s i : Operand)
    (hop : o.op = Op.index 80 s i) (hs : a.eval s = .agg #[.float .f64 x, .float .f64 y, .float .f64 z]) (hx : a.eval i = .int .i64 c) (hc : c < 3)
    (hK : wpList Tryz.prog ops Q rest (a.put o.dst (.float .f64 v)) w) : wpList Tryz.prog ops Q (o :: rest) a w := by
  refine wpList_plain hgd fun K hK' => ?_
  unfold Oper.wp
  simp only [execOp, hop, hs, hx]
  have e := run_index3 w x y z c hc
  rw [hv] at e
  simp [e, Result.andThen]
  exact hK' _ _ hK
theorem run_index2 (w : World) (x y z t : Int) (c : Nat) (hc : c < 2) : (Instr.index 107 (.agg #[.int .i64 x, .int .i64 y, .int .i64 z, .int .i64 t]) (.int .i64 c)).run Tryz.prog w = .ok (.agg (if c = 0 then #[.int .i64 x, .int .i64 y] else #[.int .i64 z, .int .i64 t])) w := by
  rcases (show c = 0 ∨ c = 1 by omega) with rfl | rfl <;> kernel_rfl
theorem wpList_index2 {ops : Array Oper} {rest : List Oper} {o : Oper} {a : Act} {Q : Exit → Act → World → Prop} {w : World} {x y z t : Int} (c : Nat) (v : Array Value) (hv : (if c = 0 then #[Value.int .i64 x, .int .i64 y] else #[.int .i64 z, .int .i64 t]) = v) (hgd : o.guard = none) (s i : Operand)
    (hop : o.op = Op.index 107 s i) (hs : a.eval s = .agg #[.int .i64 x, .int .i64 y, .int .i64 z, .int .i64 t]) (hx : a.eval i = .int .i64 c) (hc : c < 2)
    (hK : wpList Tryz.prog ops Q rest (a.put o.dst (.agg v)) w) : wpList Tryz.prog ops Q (o :: rest) a w := by
  refine wpList_plain hgd fun K hK' => ?_
  unfold Oper.wp
  simp only [execOp, hop, hs, hx]
  have e := run_index2 w x y z t c hc
  rw [hv] at e
  simp [e, Result.andThen]
  exact hK' _ _ hK
/-- A beat's cells, as they lie in memory. -/
structure BC (w : World) (b c v r : Nat) (E R : Int) : Prop where
  c0 : w.cell? ⟨b, 0, none⟩ = some (.float .f64 c)
  c1 : w.cell? ⟨b, 1, none⟩ = some (.float .f64 v)
  c2 : w.cell? ⟨b, 2, none⟩ = some (.float .f64 r)
  c3 : w.cell? ⟨b, 3, none⟩ = some (.int .i64 E)
  c4 : w.cell? ⟨b, 4, none⟩ = some (.int .i64 R)
theorem up_cell {w w' : World} (h : Up w w') {b o : Nat} {v : Value} (hc : w.cell? ⟨b, o, none⟩ = some v) : w'.cell? ⟨b, o, none⟩ = some v := by
  have hb : b < w.heap.size := by
    unfold World.cell? at hc
    rcases Nat.lt_or_ge b w.heap.size with h | h
    · exact h
    · rw [Array.getElem?_eq_none h] at hc; simp at hc
  rw [← hc]
  unfold World.cell?
  rw [h.block _ hb]
theorem BC.up {w w' : World} {b c v r : Nat} {E R : Int} (h : BC w b c v r E R) (hu : Up w w') : BC w' b c v r E R :=
  ⟨up_cell hu h.c0, up_cell hu h.c1, up_cell hu h.c2, up_cell hu h.c3, up_cell hu h.c4⟩
theorem BC.new (w : World) (c v r : Nat) (E R : Int) : BC (w.alloc (.cells #[.float .f64 c, .float .f64 v, .float .f64 r, .int .i64 E, .int .i64 R] 24)) w.heap.size c v r E R := by
  have e := heap_alloc_last w (.cells #[.float .f64 c, .float .f64 v, .float .f64 r, .int .i64 E, .int .i64 R] 24)
  constructor <;> (unfold World.cell?; simp only [e]; rfl)
end Go.Proofs.YtflngnnoibkkoaaGreat
/- The program's Check and the reference's, walked. -/
namespace Go.Proofs.YtflngnnoibkkoaaGreat
open Go.ChangeShapes Go.WideShapes Go.ChangeAt Go.RowKit Go.Fl Ieee
set_option maxRecDepth 200000
set_option maxHeartbeats 8000000
attribute [local go_sem] run_store_float call34 call33 run_neg fold_eq fold_ne fold_lt fold_gt abs_eq

def IU (w : World) (z : Int) (e : Ending) (w' : World) : Prop := e = .returned (.int .i64 z) ∧ Hid (Up w w')
/-- How many of a beat's floats are known to be good. -/
def G3 (z : Int) (c v r : Nat) : Prop := (1 ≤ z → goodF (ab c) = true) ∧ (2 ≤ z → goodF (ab v) = true) ∧ (3 ≤ z → goodF (ab r) = true)
theorem G3.zero (c v r : Nat) : G3 0 c v r := ⟨fun h => by omega, fun h => by omega, fun h => by omega⟩
theorem G3.one {c v r : Nat} (h : goodF (ab c) = true) : G3 1 c v r := ⟨fun _ => h, fun h => by omega, fun h => by omega⟩
theorem G3.two {c v r : Nat} (g : G3 1 c v r) (h : goodF (ab v) = true) : G3 2 c v r := ⟨fun _ => g.1 (by omega), fun _ => h, fun h => by omega⟩
theorem G3.three {c v r : Nat} (g : G3 2 c v r) (h : goodF (ab r) = true) : G3 3 c v r := ⟨fun _ => g.1 (by omega), fun _ => g.2.1 (by omega), fun _ => h⟩
set_option maxHeartbeats 1000000 in
theorem t36 (c v r : Nat) (E R : Int) (w : World) : Calls Tryz.prog 36 #[.agg #[.float .f64 c, .float .f64 v, .float .f64 r, .int .i64 E, .int .i64 R]] w (IU w (checkF (ab c) (ab v) (ab r) E R)) := by
  have HB := BC.new w c v r E R
  have HU : Hid (Up w (w.alloc (.cells #[.float .f64 c, .float .f64 v, .float .f64 r, .int .i64 E, .int .i64 R] 24))) := Up.alloc _ _
  obtain ⟨b0, b1, b2, b3, b4⟩ := HB
  go_enter Tryz.func36, Tryz.ntmps36
  go_wp2
  generalize w.alloc (.cells #[.float .f64 c, .float .f64 v, .float .f64 r, .int .i64 E, .int .i64 R] 24) = w1 at *
  generalize w.heap.size = s0 at *
  go_loopw [4, 14] (fun _ vi wr => ∃ z : Int, (z = 0 ∨ z = 1 ∨ z = 2 ∨ z = 3) ∧ vi = .int .i64 z ∧ w1 = wr ∧ Hid (G3 z c v r)) (fun _ vi _ => 3 - (intOf vi).toNat)
  case atStart => exact ⟨0, by omega, rfl, rfl, G3.zero _ _ _⟩
  case round =>
    obtain ⟨z, hz, rfl, hw, HG⟩ := hrel
    subst hw
    rcases hz with rfl | rfl | rfl | rfl
    · go_wp2_with (first
        | (refine wpList_index3 0 c rfl rfl _ _ rfl rfl rfl (by omega) ?_)
        | (go_at_call 37; (with_reducible refine (t37 c _).mono ?_); rintro e w' ⟨rfl, rfl⟩))
      · have hb : goodF (ab c) = false := bad_leq (by simp_all) (by simp_all)
        go_ret
        exact ⟨by rw [check80 (Or.inl hb)]; rfl, HU⟩
      · have hb : goodF (ab c) = true := good_leq (by simp_all) (by simp_all)
        go_roundw
        case rel => exact ⟨1, by omega, rfl, by simp, G3.one hb⟩
        case measure => simp [intOf]
      · have hb : goodF (ab c) = false := bad_fin (by simp_all)
        go_ret
        exact ⟨by rw [check80 (Or.inl hb)]; rfl, HU⟩
    · go_wp2_with (first
        | (refine wpList_index3 1 v rfl rfl _ _ rfl rfl rfl (by omega) ?_)
        | (go_at_call 37; (with_reducible refine (t37 v _).mono ?_); rintro e w' ⟨rfl, rfl⟩))
      · have hb : goodF (ab v) = false := bad_leq (by simp_all) (by simp_all)
        go_ret
        exact ⟨by rw [check80 (Or.inr (Or.inl hb))]; rfl, HU⟩
      · have hb : goodF (ab v) = true := good_leq (by simp_all) (by simp_all)
        go_roundw
        case rel => exact ⟨2, by omega, rfl, by simp, G3.two HG.out hb⟩
        case measure => simp [intOf]
      · have hb : goodF (ab v) = false := bad_fin (by simp_all)
        go_ret
        exact ⟨by rw [check80 (Or.inr (Or.inl hb))]; rfl, HU⟩
    · go_wp2_with (first
        | (refine wpList_index3 2 r rfl rfl _ _ rfl rfl rfl (by omega) ?_)
        | (go_at_call 37; (with_reducible refine (t37 r _).mono ?_); rintro e w' ⟨rfl, rfl⟩))
      · have hb : goodF (ab r) = false := bad_leq (by simp_all) (by simp_all)
        go_ret
        exact ⟨by rw [check80 (Or.inr (Or.inr (Or.inl hb)))]; rfl, HU⟩
      · have hb : goodF (ab r) = true := good_leq (by simp_all) (by simp_all)
        go_roundw
        case rel => exact ⟨3, by omega, rfl, by simp, G3.three HG.out hb⟩
        case measure => simp [intOf]
      · have hb : goodF (ab r) = false := bad_fin (by simp_all)
        go_ret
        exact ⟨by rw [check80 (Or.inr (Or.inr (Or.inl hb)))]; rfl, HU⟩
    · obtain ⟨g1, g2, g3⟩ := HG.out
      have G1 : Hid (goodF (ab c) = true) := g1 (by omega)
      have G2 : Hid (goodF (ab v) = true) := g2 (by omega)
      have G3 : Hid (goodF (ab r) = true) := g3 (by omega)
      clear g1 g2 g3 HG
      go_wp2
      go_loopw [6, 32] (fun _ vi wr => ∃ z : Int, (z = 0 ∨ z = 1 ∨ z = 2) ∧ vi = .int .i64 z ∧ Hid (Up w1 wr) ∧ Hid (1 ≤ z → 1 ≤ E ∧ E ≤ 16384) ∧ Hid (2 ≤ z → 1 ≤ R ∧ R ≤ 256)) (fun _ vi _ => 2 - (intOf vi).toNat)
      case atStart => exact ⟨0, by omega, rfl, Up.refl _, fun h => by omega, fun h => by omega⟩
      case round =>
        obtain ⟨z, hz, rfl, HV, HE, HR⟩ := hrel
        rcases hz with rfl | rfl | rfl
        · go_wp2_with (first
            | (refine wpList_index2 0 #[.int .i64 E, .int .i64 16384] rfl rfl _ _ rfl rfl rfl (by omega) ?_))
          · go_ret
            exact ⟨by rw [check80 (Or.inr (Or.inr (Or.inr (Or.inr (Or.inl (by first | (simp_all; done) | (simp_all; omega)))))))]; rfl, (HU.out.trans HV.out).trans (Up.alloc _ _)⟩
          · go_roundw
            case rel => exact ⟨1, by omega, rfl, HV.out.trans (Up.alloc _ _), fun _ => ⟨by first | (simp_all; done) | (simp_all; omega), by first | (simp_all; done) | (simp_all; omega)⟩, fun h => by omega⟩
            case measure => simp [intOf]
          · go_ret
            exact ⟨by rw [check80 (Or.inr (Or.inr (Or.inr (Or.inl (by first | (simp_all; done) | (simp_all; omega))))))]; rfl, (HU.out.trans HV.out).trans (Up.alloc _ _)⟩
        · go_wp2_with (first
            | (refine wpList_index2 1 #[.int .i64 R, .int .i64 256] rfl rfl _ _ rfl rfl rfl (by omega) ?_))
          · go_ret
            exact ⟨by rw [check80 (Or.inr (Or.inr (Or.inr (Or.inr (Or.inr (Or.inr (by first | (simp_all; done) | (simp_all; omega))))))))]; rfl, (HU.out.trans HV.out).trans (Up.alloc _ _)⟩
          · go_roundw
            case rel => exact ⟨2, by omega, rfl, HV.out.trans (Up.alloc _ _), fun _ => HE.out (by omega), fun _ => ⟨by first | (simp_all; done) | (simp_all; omega), by first | (simp_all; done) | (simp_all; omega)⟩⟩
            case measure => simp [intOf]
          · go_ret
            exact ⟨by rw [check80 (Or.inr (Or.inr (Or.inr (Or.inr (Or.inr (Or.inl (by first | (simp_all; done) | (simp_all; omega))))))))]; rfl, (HU.out.trans HV.out).trans (Up.alloc _ _)⟩
        · obtain ⟨e1, e2⟩ := HE.out (by omega)
          obtain ⟨r1, r2⟩ := HR.out (by omega)
          have c3 := up_cell HV.out b3
          have c4 := up_cell HV.out b4
          have HC : Hid (checkF (ab c) (ab v) (ab r) E R = if E * R > 262144 then 3 else 0) := check_in G1.out G2.out G3.out e1 e2 r1 r2
          have m1 := Int.mul_le_mul e2 r2 (by omega) (by omega)
          have m2 := Int.mul_nonneg (show 0 ≤ E by omega) (show 0 ≤ R by omega)
          go_wp2
          · go_ret
            exact ⟨by rw [HC.out, if_pos (by simp_all)]; rfl, HU.out.trans HV.out⟩
          · go_ret
            exact ⟨by rw [HC.out, if_neg (by simp_all)]; rfl, HU.out.trans HV.out⟩
end Go.Proofs.YtflngnnoibkkoaaGreat
/- Dwell: what may be asked of a setup. -/
namespace Go.Proofs.YtflngnnoibkkoaaGreat
open Go.ChangeShapes Go.WideShapes Go.ChangeAt Go.RowKit Go.Fl Ieee
set_option maxRecDepth 200000
set_option maxHeartbeats 8000000
attribute [local go_sem] run_store_float call34 call33 run_neg fold_eq fold_ne fold_lt fold_gt abs_eq

theorem t68 (a b c : Int) (w : World) : Calls Tryz.prog 68 #[.int .i64 a, .int .i64 b, .int .i64 c] w fun e w' => e = .returned (.bool (decide (b ≤ a) && decide (a ≤ c))) ∧ w' = w := by
  go_enter Tryz.func68, Tryz.ntmps68
  go_wp2
  all_goals (go_ret; go_tidy; simp_all; try omega)
def canB (R can : Int) : Bool := decide (0 ≤ can) && decide (can ≤ 8) && decide (can < R)
def levB (way gu tr nth : Int) : Bool := (decide (0 ≤ gu) && decide (gu ≤ 16384)) && (decide (1 ≤ tr) && decide (tr ≤ 16384)) && (decide (0 ≤ nth) && decide (nth ≤ 32768)) && (!(way == 3) || decide (nth < 2 * tr))
theorem t39 (c v r : Nat) (E R cd win can way gu tr nth : Int) (ti no : Nat) (w : World) : Calls Tryz.prog 39 #[.agg #[.float .f64 c, .float .f64 v, .float .f64 r, .int .i64 E, .int .i64 R, .int .i64 cd, .int .i8 win, .int .i64 can, .int .i8 way, .int .i64 gu, .int .i64 tr, .int .i64 nth, .float .f64 ti, .float .f64 no]] w fun e w' => e = .returned (.bool (canB R can)) ∧ Hid (Up w w') := by
  go_enter Tryz.func39, Tryz.ntmps39
  go_wp2_with (go_at_call 68; (with_reducible refine (t68 _ _ _ _).mono ?_); rintro e w' ⟨rfl, rfl⟩)
  all_goals (go_ret; go_tidy; refine ⟨?_, Up.alloc _ _⟩; simp_all [canB]; try omega)
theorem t40 (c v r : Nat) (E R cd win can way gu tr nth : Int) (ti no : Nat) (w : World) : Calls Tryz.prog 40 #[.agg #[.float .f64 c, .float .f64 v, .float .f64 r, .int .i64 E, .int .i64 R, .int .i64 cd, .int .i8 win, .int .i64 can, .int .i8 way, .int .i64 gu, .int .i64 tr, .int .i64 nth, .float .f64 ti, .float .f64 no]] w fun e w' => e = .returned (.bool (levB way gu tr nth)) ∧ Hid (Up w w') := by
  go_enter Tryz.func40, Tryz.ntmps40
  go_wp2_with (go_at_call 68; (with_reducible refine (t68 _ _ _ _).mono ?_); rintro e w' ⟨rfl, rfl⟩)
  all_goals (go_ret; go_tidy; refine ⟨?_, Up.alloc _ _⟩; simp_all [levB]; try omega)
theorem t41 (x : Nat) (w : World) : Calls Tryz.prog 41 #[.float .f64 x] w fun e w' => e = .returned (.bool (fin (ab x))) ∧ w' = w := by
  go_enter Tryz.func41, Tryz.ntmps41
  go_wp2_with (first
    | (go_at_call 51; (with_reducible refine (t51 _ _).mono ?_); rintro e w' ⟨rfl, rfl⟩)
    | (go_at_call 52; (with_reducible refine (t52 _ _).mono ?_); rintro e w' ⟨rfl, rfl⟩))
  all_goals (go_ret; go_tidy; refine ⟨?_, rfl⟩; simp_all [fin])
def manyB (E R n : Int) : Bool := decide (16777216 < R * E * n) || decide (16777216 < R * E * R)
end Go.Proofs.YtflngnnoibkkoaaGreat

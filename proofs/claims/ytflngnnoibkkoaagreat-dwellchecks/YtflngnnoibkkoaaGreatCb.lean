/- Scene: targets that are handed in; the first error. -/
import Derived.Test.YtflngnnoibkkoaaGreatEi
import Derived.Test.YtflngnnoibkkoaaGreatFt
import Derived.Test.YtflngnnoibkkoaaGreatM
import Derived.Test.YtflngnnoibkkoaaGreatS
namespace Go.Proofs.YtflngnnoibkkoaaGreat
open Go.ChangeShapes Go.WideShapes Go.ChangeAt Go.RowKit Go.Fl Ieee
set_option maxRecDepth 200000
set_option maxHeartbeats 8000000
attribute [local go_sem] run_store_float run_store_c isSome_set call34 call33 run_neg fold_eq fold_ne fold_lt fold_gt abs_eq

/-- A target's five numbers. -/
structure Tg where
  r : Nat
  s : Nat
  a : Nat
  t : Nat
  b : Nat
/-- Targets as they lie in memory. -/
def TL (w : World) (g n : Nat) (f : Nat → Tg) : Prop := ∀ i, i < n → w.cell? ⟨g, i * 5, none⟩ = some (.float .f64 (f i).r) ∧ w.cell? ⟨g, i * 5 + 1, none⟩ = some (.float .f64 (f i).s) ∧ w.cell? ⟨g, i * 5 + 2, none⟩ = some (.float .f64 (f i).a) ∧ w.cell? ⟨g, i * 5 + 3, none⟩ = some (.float .f64 (f i).t) ∧ w.cell? ⟨g, i * 5 + 4, none⟩ = some (.float .f64 (f i).b)
theorem TL.up {w w' : World} {g n : Nat} {f : Nat → Tg} (h : TL w g n f) (hu : Up w w') : TL w' g n f := fun i hi => by
  obtain ⟨h1, h2, h3, h4, h5⟩ := h i hi
  exact ⟨cell_up h1 hu, cell_up h2 hu, cell_up h3 hu, cell_up h4 hu, cell_up h5 hu⟩
def finT (t : Tg) : Bool := fin4F t.r t.s t.a t.t
theorem cells5 (w : World) (a b c d e : Nat) : (w.alloc (.cells #[.float .f64 a, .float .f64 b, .float .f64 c, .float .f64 d, .float .f64 e] 41)).cell? ⟨w.heap.size, 0, none⟩ = some (.float .f64 a) ∧ (w.alloc (.cells #[.float .f64 a, .float .f64 b, .float .f64 c, .float .f64 d, .float .f64 e] 41)).cell? ⟨w.heap.size, 1, none⟩ = some (.float .f64 b) ∧ (w.alloc (.cells #[.float .f64 a, .float .f64 b, .float .f64 c, .float .f64 d, .float .f64 e] 41)).cell? ⟨w.heap.size, 2, none⟩ = some (.float .f64 c) ∧ (w.alloc (.cells #[.float .f64 a, .float .f64 b, .float .f64 c, .float .f64 d, .float .f64 e] 41)).cell? ⟨w.heap.size, 3, none⟩ = some (.float .f64 d) ∧ (w.alloc (.cells #[.float .f64 a, .float .f64 b, .float .f64 c, .float .f64 d, .float .f64 e] 41)).cell? ⟨w.heap.size, 4, none⟩ = some (.float .f64 e) :=
  ⟨new_cell _ _ _ _ _ rfl, new_cell _ _ _ _ _ rfl, new_cell _ _ _ _ _ rfl, new_cell _ _ _ _ _ rfl, new_cell _ _ _ _ _ rfl⟩
theorem t88z (p : Option Addr) (c : Nat) (w : World) : Calls Tryz.prog 88 #[.slice p 0 c] w (BU true w) := by
  go_enter Tryz.func88, Tryz.ntmps88
  go_wp2
  go_loopw [7] (fun vi wr => vi = .int .i64 0 ∧ wr = w) (fun _ _ => 0)
  case atStart => exact ⟨rfl, rfl⟩
  case round =>
    obtain ⟨rfl, rfl⟩ := hrel
    go_wp2
    go_ret
    exact ⟨rfl, Up.refl _⟩
set_option maxHeartbeats 1000000 in
theorem t88 (g n c k : Nat) (f : Nat → Tg) (b : Bool) (w : World) (h : TL w g n f) (hn : n ≤ 1000000) (hk : ∀ i, i < k → finT (f i) = true) (hb : k < n ∧ finT (f k) = false ∧ b = false ∨ k = n ∧ b = true) :
    Calls Tryz.prog 88 #[.slice (some ⟨g, 0, none⟩) n c] w (BU b w) := by
  have H : Hid (TL w g n f) := h
  have HB : Hid (k < n ∧ finT (f k) = false ∧ b = false ∨ k = n ∧ b = true) := hb
  have HK : Hid (∀ i, i < k → finT (f i) = true) := hk
  have hkn : k ≤ n := by omega
  clear h hb hk
  go_enter Tryz.func88, Tryz.ntmps88
  go_wp2
  go_loopw [7] (fun vi wr => ∃ i : Nat, i ≤ k ∧ vi = .int .i64 i ∧ Hid (Up w wr)) (fun vi _ => n - (intOf vi).toNat)
  case atStart => exact ⟨0, by omega, rfl, Up.refl _⟩
  case round =>
    obtain ⟨i, hi, rfl, HU⟩ := hrel
    by_cases hlt : i < n
    · have z1 : (i : Int) < (n : Int) := by omega
      have z2 : (0 : Int) ≤ (i : Int) := by omega
      obtain ⟨h0, h1, h2, h3, h4⟩ := (H.out.up HU.out) i hlt
      obtain ⟨bb, hbb⟩ : ∃ bb, finT (f i) = bb := ⟨_, rfl⟩
      have HBB : Hid (finT (f i) = bb) := hbb
      unfold finT at hbb
      generalize (f i).r = r at h0 hbb
      generalize (f i).s = s at h1 hbb
      generalize (f i).a = a at h2 hbb
      generalize (f i).t = t at h3 hbb
      generalize (f i).b = q at h4
      have HF : Hid (fin4F r s a t = bb) := hbb
      clear hbb
      obtain ⟨d0, d1, d2, d3, d4⟩ := cells5 wr r s a t q
      cases bb
      · have hik : ¬ i < k := fun e => by have q1 := HK.out i e; rw [HBB.out] at q1; cases q1
        obtain rfl : i = k := by omega
        have hb : b = false := by
          rcases HB.out with ⟨_, q, r⟩ | ⟨q, r⟩
          · exact r
          · omega
        subst hb
        clear HB HK
        go_wp2_with (go_at_call 87; (with_reducible refine (fin4 _ _ _ _ _ (by simp)).mono ?_); rintro e w' ⟨rfl, hw⟩; subst w'; rw [HF.out])
        go_ret
        exact ⟨rfl, (HU.out.trans (Up.alloc _ _)).trans (Up.alloc _ _)⟩
      · have hik : i < k := by
          rcases HB.out with ⟨_, q1, r⟩ | ⟨q, r⟩
          · by_cases e : i = k
            · subst e; rw [HBB.out] at q1; cases q1
            · omega
          · omega
        go_wp2_with (go_at_call 87; (with_reducible refine (fin4 _ _ _ _ _ (by simp)).mono ?_); rintro e w' ⟨rfl, hw⟩; subst w'; rw [HF.out])
        go_roundw
        case rel => exact ⟨i + 1, by omega, by go_num, (HU.out.trans (Up.alloc _ _)).trans (Up.alloc _ _)⟩
        case measure => simp [intOf]; omega
    · obtain rfl : i = n := by omega
      have hb : b = true := by
        rcases HB.out with ⟨q, _⟩ | ⟨_, r⟩
        · omega
        · exact r
      subst hb
      go_wp2
      go_ret
      exact ⟨rfl, HU⟩
/-- The first error. -/
def refF (z0 : Int) (b1 b2 b3 b4 b5 : Bool) : Int := if z0 ≠ 0 then z0 else if b1 then 2 else if b2 then 3 else if b3 && !b4 && b5 then 0 else 6
set_option maxHeartbeats 1000000 in
theorem t54 {c v r tm wd n T cp : Nat} {E : Int} {R : Nat} {p : Option Addr} {w : World} {z0 : Int} {b3 b4 b5 : Bool} (h0 : checkF (ab c) (ab v) (ab r) E R = z0) (hn : n < 4611686018427387904) (hT : T < 4611686018427387904) (h3 : (fin (ab tm) && fin (ab wd)) = b3) (h4 : ltF (ab wd) (ab 0) = b4)
    (h5 : muchF T R n = false → ∀ w', Up w w' → Calls Tryz.prog 88 #[.slice p T cp] w' (BU b5 w')) :
    Calls Tryz.prog 54 #[.agg #[.float .f64 c, .float .f64 v, .float .f64 r, .int .i64 E, .int .i64 R], .int .i64 n, .slice p T cp, .float .f64 tm, .float .f64 wd] w (IU w (refF z0 (decide (n = 0)) (muchF T R n) b3 b4 b5)) := by
  have HB := BC.new w c v r E R
  have HU : Hid (Up w (w.alloc (.cells #[.float .f64 c, .float .f64 v, .float .f64 r, .int .i64 E, .int .i64 R] 24))) := Up.alloc _ _
  obtain ⟨b0', b1', b2', b3', b4'⟩ := HB
  have H9 : Hid (∀ w, Calls Tryz.prog 36 #[.agg #[.float .f64 c, .float .f64 v, .float .f64 r, .int .i64 E, .int .i64 R]] w (IU w z0)) := fun w => by rw [← h0]; exact t36 c v r E R w
  have HR : Hid (z0 = 0 → R ≤ 256) := fun e => by
    rw [← h0] at e
    unfold checkF at e
    split at e
    · omega
    · cases e
  have H5 : Hid (muchF T R n = false → ∀ w', Up w w' → Calls Tryz.prog 88 #[.slice p T cp] w' (BU b5 w')) := h5
  have H3 : Hid ((fin (ab tm) && fin (ab wd)) = b3) := h3
  clear h0 h3 h5
  by_cases hz : z0 = 0
  · subst hz
    have hR := HR.out rfl
    by_cases hn0 : n = 0
    · subst hn0
      have e : refF 0 (decide (0 = 0)) (muchF T R 0) b3 b4 b5 = 2 := by simp [refF]
      rw [e]
      go_enter Tryz.func54, Tryz.ntmps54
      go_wp2_with (go_at_call 36; (with_reducible refine (H9.out _).mono ?_); rintro e w1 ⟨rfl, U1⟩)
      go_ret
      exact ⟨rfl, HU.out.trans U1.out⟩
    · have hn1 : ((n : Int) == 0) = false := by rw [beq_eq_false_iff_ne]; omega
      obtain ⟨b2, hb2⟩ : ∃ b, muchF T R n = b := ⟨_, rfl⟩
      have HM : Hid (∀ w, Calls Tryz.prog 86 #[.int .i64 T, .int .i64 R, .int .i64 n] w (BR b2 w)) := fun w => by rw [← hb2]; exact t86 T R n w hT hn hR
      have HB2 : Hid (muchF T R n = b2) := hb2
      rw [hb2, decide_eq_false hn0]
      clear hb2 hn0
      cases b2
      · cases b3
        · have e : refF 0 false false false b4 b5 = 6 := by simp [refF]
          rw [e]
          go_enter Tryz.func54, Tryz.ntmps54
          go_wp2_with (first
            | (go_at_call 36; (with_reducible refine (H9.out _).mono ?_); rintro e w1 ⟨rfl, U1⟩; have c4 := cell_up b4' U1.out)
            | (go_at_call 86; (with_reducible refine (HM.out _).mono ?_); rintro e w' ⟨rfl, hw⟩; subst w')
            | (go_at_call 87; (with_reducible refine (fin2 _ _ _ (by simp)).mono ?_); rintro e w' ⟨rfl, hw⟩; subst w'; rw [H3.out]))
          go_ret
          exact ⟨rfl, (HU.out.trans U1.out).trans (Up.alloc _ _)⟩
        · cases b4
          · cases b5
            · have e : refF 0 false false true false false = 6 := by simp [refF]
              rw [e]
              go_enter Tryz.func54, Tryz.ntmps54
              go_wp2_with (first
                | (go_at_call 36; (with_reducible refine (H9.out _).mono ?_); rintro e w1 ⟨rfl, U1⟩; have c4 := cell_up b4' U1.out)
                | (go_at_call 86; (with_reducible refine (HM.out _).mono ?_); rintro e w' ⟨rfl, hw⟩; subst w')
                | (go_at_call 87; (with_reducible refine (fin2 _ _ _ (by simp)).mono ?_); rintro e w' ⟨rfl, hw⟩; subst w'; rw [H3.out])
                | (go_at_call 88; (with_reducible refine (H5.out HB2.out _ ((HU.out.trans U1.out).trans (Up.alloc _ _))).mono ?_); rintro e w2 ⟨rfl, U2⟩))
              go_ret
              exact ⟨rfl, ((HU.out.trans U1.out).trans (Up.alloc _ _)).trans U2.out⟩
            · have e : refF 0 false false true false true = 0 := by simp [refF]
              rw [e]
              go_enter Tryz.func54, Tryz.ntmps54
              go_wp2_with (first
                | (go_at_call 36; (with_reducible refine (H9.out _).mono ?_); rintro e w1 ⟨rfl, U1⟩; have c4 := cell_up b4' U1.out)
                | (go_at_call 86; (with_reducible refine (HM.out _).mono ?_); rintro e w' ⟨rfl, hw⟩; subst w')
                | (go_at_call 87; (with_reducible refine (fin2 _ _ _ (by simp)).mono ?_); rintro e w' ⟨rfl, hw⟩; subst w'; rw [H3.out])
                | (go_at_call 88; (with_reducible refine (H5.out HB2.out _ ((HU.out.trans U1.out).trans (Up.alloc _ _))).mono ?_); rintro e w2 ⟨rfl, U2⟩))
              go_ret
              exact ⟨rfl, ((HU.out.trans U1.out).trans (Up.alloc _ _)).trans U2.out⟩
          · have e : refF 0 false false true true b5 = 6 := by simp [refF]
            rw [e]
            go_enter Tryz.func54, Tryz.ntmps54
            go_wp2_with (first
              | (go_at_call 36; (with_reducible refine (H9.out _).mono ?_); rintro e w1 ⟨rfl, U1⟩; have c4 := cell_up b4' U1.out)
              | (go_at_call 86; (with_reducible refine (HM.out _).mono ?_); rintro e w' ⟨rfl, hw⟩; subst w')
              | (go_at_call 87; (with_reducible refine (fin2 _ _ _ (by simp)).mono ?_); rintro e w' ⟨rfl, hw⟩; subst w'; rw [H3.out]))
            go_ret
            exact ⟨rfl, (HU.out.trans U1.out).trans (Up.alloc _ _)⟩
      · have e : refF 0 false true b3 b4 b5 = 3 := by simp [refF]
        rw [e]
        go_enter Tryz.func54, Tryz.ntmps54
        go_wp2_with (first
          | (go_at_call 36; (with_reducible refine (H9.out _).mono ?_); rintro e w1 ⟨rfl, U1⟩; have c4 := cell_up b4' U1.out)
          | (go_at_call 86; (with_reducible refine (HM.out _).mono ?_); rintro e w' ⟨rfl, hw⟩; subst w'))
        go_ret
        exact ⟨rfl, HU.out.trans U1.out⟩
  · have e : refF z0 (decide (n = 0)) (muchF T R n) b3 b4 b5 = z0 := by simp [refF, hz]
    rw [e]
    have hz1 : (z0 != 0) = true := by simp [hz]
    go_enter Tryz.func54, Tryz.ntmps54
    go_wp2_with (go_at_call 36; (with_reducible refine (H9.out _).mono ?_); rintro e w1 ⟨rfl, U1⟩)
    go_ret
    exact ⟨rfl, HU.out.trans U1.out⟩
end Go.Proofs.YtflngnnoibkkoaaGreat
/- What Go's int(x) gives of a float that is not below 0 and not too great; floors as whole numbers; words that are not below 0. No program is spoken of here. -/
namespace Go.Proofs.YtflngnnoibkkoaaGreat
open Go.ChangeShapes Go.WideShapes Go.ChangeAt Go.RowKit Go.Fl Ieee
set_option maxRecDepth 200000
set_option maxHeartbeats 8000000

theorem toInt_val {x : Nat} (hx : Fnt x) (h0 : 0 ≤ val x) (hB : val x < 1125899906842624) : ∃ K : Nat, floatToIntVal .f64 x .i64 = some (K : Int) ∧ (K : Rat) ≤ val x ∧ val x < (K : Rat) + 1 ∧ K < 1125899906842624 := by
  obtain ⟨s, m, i, ex⟩ := fin_read hx
  have vx := val_read ex
  have hp := pw_pos i
  have hm0 : 0 ≤ (m : Rat) * pw i := Rat.mul_nonneg Rat.natCast_nonneg (Rat.le_of_lt hp)
  have hx' : val x = (m : Rat) * pw i := by
    cases s
    · rw [vx, dv_false]
    · rw [dv_true] at vx; grind
  have hsm : s = true → m = 0 := by
    intro hs
    subst hs
    rw [dv_true] at vx
    have h0 : (m : Rat) * pw i = 0 := by grind
    rcases Nat.eq_zero_or_pos m with h1 | h1
    · exact h1
    · have := Rat.mul_pos (Rat.natCast_pos.2 h1) hp
      grind
  obtain ⟨K, hK⟩ : ∃ K, K = Toward.zero.cut s (m <<< i.toNat) (-i).toNat := ⟨_, rfl⟩
  have hKd : K = m * 2 ^ i.toNat / 2 ^ (-i).toNat := by
    rw [hK]
    unfold Toward.cut
    simp only [shl, Nat.one_mul, Bool.toNat_false, Nat.add_zero]
    generalize m * 2 ^ i.toNat = n
    rcases Nat.lt_or_ge (n.log2 + 2) ((-i).toNat) with h | h
    · rw [Nat.min_eq_right (Nat.le_of_lt h)]
      have hn : n < 2 ^ (n.log2 + 1) := Nat.lt_log2_self
      have a1 : 2 ^ (n.log2 + 1) ≤ 2 ^ (n.log2 + 2) := Nat.pow_le_pow_right (by omega) (by omega)
      have a2 : 2 ^ (n.log2 + 2) ≤ 2 ^ ((-i).toNat) := Nat.pow_le_pow_right (by omega) (by omega)
      rw [Nat.div_eq_of_lt (by omega), Nat.div_eq_of_lt (by omega)]
    · rw [Nat.min_eq_left h]
  have hz0 : s = true → K = 0 := fun hs => by rw [hKd, hsm hs]; simp
  have hb : (K : Rat) ≤ val x ∧ val x < (K : Rat) + 1 := by
    rcases Int.le_total 0 i with hi | hi
    · have e1 : (-i).toNat = 0 := by omega
      have hKx : (K : Rat) = val x := by
        rw [hKd, e1, Nat.pow_zero, Nat.div_one, hx', Rat.natCast_mul, ← pw_nat, show ((i.toNat : Nat) : Int) = i by omega]
      constructor <;> grind
    · have e1 : i.toNat = 0 := by omega
      rw [e1, Nat.pow_zero, Nat.mul_one] at hKd
      obtain ⟨d, hd⟩ : ∃ d, d = (-i).toNat := ⟨_, rfl⟩
      rw [← hd] at hKd
      have hxi : val x * ((2 ^ d : Nat) : Rat) = (m : Rat) := by
        rw [hx', ← pw_nat, Rat.mul_assoc, ← pw_add, show i + (d : Int) = 0 by omega]
        have e0 : pw 0 = 1 := by decide +kernel
        rw [e0, Rat.mul_one]
      have hpd := Nat.two_pow_pos d
      have hpdR : (0 : Rat) < ((2 ^ d : Nat) : Rat) := Rat.natCast_pos.2 hpd
      have hdm := Nat.div_add_mod m (2 ^ d)
      have hlt := Nat.mod_lt m hpd
      rw [← hKd] at hdm
      have k1 : K * 2 ^ d ≤ m := by rw [Nat.mul_comm]; omega
      have k2 : m < (K + 1) * 2 ^ d := by rw [Nat.add_mul, Nat.mul_comm]; omega
      have k1' : (K : Rat) * ((2 ^ d : Nat) : Rat) ≤ (m : Rat) := by rw [← Rat.natCast_mul]; exact Rat.natCast_le_natCast.2 k1
      have k2' : (m : Rat) < ((K : Rat) + 1) * ((2 ^ d : Nat) : Rat) := by
        have := Rat.natCast_lt_natCast.2 k2
        rw [Rat.natCast_mul, Rat.natCast_add] at this
        exact this
      rw [← hxi] at k1' k2'
      refine ⟨le_of_mul hpdR k1', ?_⟩
      rcases (Rat.le_total : (K : Rat) + 1 ≤ val x ∨ val x ≤ (K : Rat) + 1) with h | h
      · exfalso
        have := Rat.mul_le_mul_of_nonneg_right h (Rat.le_of_lt hpdR)
        grind
      · refine Rat.lt_of_le_of_ne h fun e => ?_
        rw [e] at k2'
        grind
  have hK50 : K < 1125899906842624 := by
    rcases Nat.lt_or_ge K 1125899906842624 with h | h
    · exact h
    · exfalso
      have := Rat.natCast_le_natCast.2 h
      have e : ((1125899906842624 : Nat) : Rat) = 1125899906842624 := rfl
      rw [e] at this
      grind
  refine ⟨K, ?_, hb.1, hb.2, hK50⟩
  unfold floatToIntVal
  have et : (FloatKind.f64.decode x).toInt .zero = some (K : Int) := by
    show (double.read x).toInt .zero = _
    rw [ex]
    unfold Datum.toInt
    simp only [Datum.integral, ← hK]
    cases s
    · simp [signed]
    · rw [hz0 rfl]; rfl
  rw [et]
  simp only
  rw [if_pos]
  show (-9223372036854775808 : Int) ≤ K ∧ (K : Int) ≤ 9223372036854775807
  omega
end Go.Proofs.YtflngnnoibkkoaaGreat
/- Scene: an echo, as numbers; what adds it. -/
namespace Go.Proofs.YtflngnnoibkkoaaGreat
open Go.ChangeShapes Go.WideShapes Go.ChangeAt Go.RowKit Go.Fl Ieee
set_option maxRecDepth 200000
set_option maxHeartbeats 8000000
attribute [local go_sem] run_store_float run_store_c isSome_set call34 call33 run_neg fold_eq fold_ne fold_lt fold_gt abs_eq

/-- How far the target is when the pulse of a row is sent. -/
def rF (tm rt r s : Option Nat) (sent : Int) : Option Nat := atF r s (bin .add tm (bin .quo (ab (floatOfInt .f64 sent)) rt))
/-- How many cells that is. -/
def dF (r c : Option Nat) : Option Nat := (bin .quo r c).map floor
/-- Is an echo heard? -/
def heardF (r d : Option Nat) : Bool := fin r && !ltF d (ab 0) && !gtF d (ab 4742290407621132288)
def phaseF (tn r wv : Option Nat) : Option Nat := bin .sub tn (bin .quo (bin .mul (ab 4611686018427387904) r) wv)
def ampF (tn r wv am : Option Nat) : C2 := (bin .mul (turnC (phaseF tn r wv)) am, bin .mul (turnS (phaseF tn r wv)) am)
/-- As a whole number. -/
def intD (d : Option Nat) : Nat := match d with | some q => ((floatToIntVal .f64 q .i64).getD 0).toNat | none => 0
/-- A pulse, some of its samples, added from a place on. -/
def hitF (S : Nat → C2) (F m : Nat) (a : C2) (P : Nat → C2) (i : Nat) : C2 := if F ≤ i ∧ i < F + m then addC (S i) (mulC a (P (i - F))) else S i
/-- A beat: its cell, its wave, its rate, how many samples a row has, how many rows. -/
structure Bt where
  c : Nat
  v : Nat
  r : Nat
  E : Nat
  R : Nat
def rowR (b : Bt) (t : Tg) (tm : Nat) (p : Nat) : Option Nat := rF (ab tm) (ab b.r) (ab t.r) (ab t.s) ((p : Int) * (b.E : Int))
def rowD (b : Bt) (t : Tg) (tm : Nat) (p : Nat) : Option Nat := dF (rowR b t tm p) (ab b.c)
def rowA (b : Bt) (t : Tg) (tm : Nat) (p : Nat) : C2 := ampF (ab t.t) (rowR b t tm p) (ab b.v) (ab t.a)
/-- What the row p adds. -/
def rowE (b : Bt) (t : Tg) (tm n N : Nat) (P : Nat → C2) (S : Nat → C2) (p : Nat) : Nat → C2 :=
  if heardF (rowR b t tm p) (rowD b t tm p) = true then hitF S (p * b.E + intD (rowD b t tm p)) (min n (N - (p * b.E + intD (rowD b t tm p)))) (rowA b t tm p) P else S
/-- What the first rows add. -/
def echoS (b : Bt) (t : Tg) (tm n N : Nat) (P : Nat → C2) (S : Nat → C2) : Nat → Nat → C2
  | 0 => S
  | p + 1 => rowE b t tm n N P (echoS b t tm n N P S p) p
theorem hit_zero (S : Nat → C2) (F : Nat) (a : C2) (P : Nat → C2) (i : Nat) : hitF S F 0 a P i = S i := by
  unfold hitF; rw [if_neg (by omega)]
theorem hit_next {S : Nat → C2} {F k : Nat} {a : C2} {P : Nat → C2} {i : Nat} : hitF S F (k + 1) a P i = if i = F + k then addC (hitF S F k a P i) (mulC a (P k)) else hitF S F k a P i := by
  unfold hitF
  by_cases h : i = F + k
  · subst h
    rw [if_pos (by omega), if_pos rfl, if_neg (by omega), Nat.add_sub_cancel_left]
  · rw [if_neg h]
    by_cases h2 : F ≤ i ∧ i < F + k
    · rw [if_pos h2, if_pos (by omega)]
    · rw [if_neg h2, if_neg (by omega)]
/-- What the closure holds, and what it was given. -/
structure AX (w : World) (B b1 b2 b3 b4 : Nat) (b : Bt) (pg po n pc tm N : Nat) (fp : Nat → Nat × Nat) : Prop where
  bc : BC w b1 b.c b.v b.r (b.E : Int) (b.R : Int)
  time : w.cell? ⟨b2, 0, none⟩ = some (.float .f64 tm)
  pulse : w.cell? ⟨b3, 0, none⟩ = some (.slice (some ⟨pg, po, none⟩) n pc)
  samp : w.cell? ⟨b4, 0, none⟩ = some (.slice (some ⟨B, 0, none⟩) N N)
  rd : RD w pg po n fp
  n1 : b1 ≠ B
  n2 : b2 ≠ B
  n3 : b3 ≠ B
  n4 : b4 ≠ B
  np : pg ≠ B
theorem BC.but {w w' : World} {B b c v r : Nat} {E R : Int} (h : BC w b c v r E R) (hb : But B w w') (hne : b ≠ B) : BC w' b c v r E R :=
  ⟨hb.cell hne h.c0, hb.cell hne h.c1, hb.cell hne h.c2, hb.cell hne h.c3, hb.cell hne h.c4⟩
theorem AX.but {w w' : World} {B b1 b2 b3 b4 : Nat} {b : Bt} {pg po n pc tm N : Nat} {fp : Nat → Nat × Nat} (h : AX w B b1 b2 b3 b4 b pg po n pc tm N fp) (hb : But B w w') : AX w' B b1 b2 b3 b4 b pg po n pc tm N fp :=
  ⟨h.bc.but hb h.n1, hb.cell h.n2 h.time, hb.cell h.n3 h.pulse, hb.cell h.n4 h.samp, fun j hj => hb.cell h.np (h.rd j hj), h.n1, h.n2, h.n3, h.n4, h.np⟩
/-- A target's cells. -/
structure T5 (w : World) (g : Nat) (t : Tg) : Prop where
  c0 : w.cell? ⟨g, 0, none⟩ = some (.float .f64 t.r)
  c1 : w.cell? ⟨g, 1, none⟩ = some (.float .f64 t.s)
  c2 : w.cell? ⟨g, 2, none⟩ = some (.float .f64 t.a)
  c3 : w.cell? ⟨g, 3, none⟩ = some (.float .f64 t.t)
  c4 : w.cell? ⟨g, 4, none⟩ = some (.float .f64 t.b)
theorem T5.but {w w' : World} {B g : Nat} {t : Tg} (h : T5 w g t) (hb : But B w w') (hne : g ≠ B) : T5 w' g t :=
  ⟨hb.cell hne h.c0, hb.cell hne h.c1, hb.cell hne h.c2, hb.cell hne h.c3, hb.cell hne h.c4⟩
theorem fin_range {d : Nat} (h : isN d = false) (h0 : ltF (ab d) (ab 0) = false) (h1 : gtF (ab d) (ab 4742290407621132288) = false) : Fnt d ∧ 0 ≤ val d ∧ val d ≤ 1073741824 := by
  have hA : isN (abs d) = false := by rw [isN_abs]; exact h
  have e1 : ord (ab d) (ab 0) = some (compare (lin d) (lin 0)) := by
    rw [← order_ab]; exact order_lin h (by decide +kernel)
  have e2 : ord (ab d) (ab 4742290407621132288) = some (compare (lin d) (lin 4742290407621132288)) := by
    rw [← order_ab]; exact order_lin h (by decide +kernel)
  have e3 : ord ((ab d).map abs) (ab 9218868437227405311) = some (compare (lin (abs d)) (lin 9218868437227405311)) := by
    rw [← ab_abs, ← order_ab]; exact order_lin hA (by decide +kernel)
  have l0 : lin 0 = 0 := by decide +kernel
  have l1 : lin 4742290407621132288 = 4742290407621132288 := by decide +kernel
  have l2 : lin 9218868437227405311 = 9218868437227405311 := by decide +kernel
  have l3 : lin (abs d) = ((d % 2 ^ 63 : Nat) : Int) := by
    have : abs d < 2 ^ 63 := Nat.mod_lt _ (by decide)
    rw [lin_low this]; rfl
  have l4 : lin d = ((d % 2 ^ 63 : Nat) : Int) ∨ lin d = -((d % 2 ^ 63 : Nat) : Int) := by
    unfold lin sgn; split <;> simp
  have g0 : 0 ≤ lin d := by
    unfold ltF at h0
    rw [e1, l0, Int.compare_eq_ite_lt] at h0
    by_cases e : lin d < 0
    · rw [if_pos e] at h0; cases h0
    · omega
  have g1 : lin d ≤ 4742290407621132288 := by
    unfold gtF at h1
    rw [e2, l1, Int.compare_eq_ite_lt] at h1
    by_cases e : 4742290407621132288 < lin d
    · rw [if_neg (by omega), if_pos e] at h1; cases h1
    · omega
  have hf : fin (ab d) = true := by
    unfold fin
    rw [eqF_self, h]
    unfold gtF
    rw [e3, l2, l3, Int.compare_eq_ite_lt]
    have : ((d % 2 ^ 63 : Nat) : Int) < 9218868437227405311 := by
      rcases l4 with l4 | l4 <;> omega
    rw [if_pos this]
    rfl
  have fd := fin_iff hf
  have f0 : Fnt 0 ∧ val 0 = 0 := ⟨by unfold Fnt; decide, val0⟩
  have f1 : Fnt 4742290407621132288 ∧ val 4742290407621132288 = 1073741824 := ⟨by unfold Fnt; decide, by decide +kernel⟩
  rw [ltF_val fd f0.1, f0.2] at h0
  rw [gtF_val fd f1.1, f1.2] at h1
  simp at h0 h1
  exact ⟨fd, by grind, by grind⟩
/-- Where the echo begins, as Go's int. -/
theorem int_range {d : Nat} (h : isN d = false) (h0 : ltF (ab d) (ab 0) = false) (h1 : gtF (ab d) (ab 4742290407621132288) = false) : ∃ K : Nat, floatToIntVal .f64 d .i64 = some (K : Int) ∧ intD (ab d) = K ∧ K ≤ 1073741824 := by
  obtain ⟨f, v0, v1⟩ := fin_range h h0 h1
  obtain ⟨K, k1, k2, k3, k4⟩ := toInt_val f v0 (by grind)
  refine ⟨K, k1, ?_, ?_⟩
  · rw [ab_some h]; simp [intD, k1]
  · have : (K : Rat) ≤ ((1073741824 : Nat) : Rat) := by
      have e : ((1073741824 : Nat) : Rat) = 1073741824 := by decide +kernel
      rw [e]; grind
    exact Rat.natCast_le_natCast.1 this
theorem quo_is {r c : Nat} (hr : fin (ab r) = true) (hc : goodF (ab c) = true) : ∃ x, bin .quo (ab r) (ab c) = some x ∧ isN x = false := by
  unfold goodF at hc
  rw [Bool.and_eq_true] at hc
  have fr := fin_iff hr
  have fc := fin_iff hc.1
  have pc := hc.2
  have f0 : Fnt 0 ∧ val 0 = 0 := ⟨by unfold Fnt; decide, val0⟩
  rw [gtF_val fc f0.1, f0.2] at pc
  simp at pc
  rw [Fnt.ab fr, Fnt.ab fc]
  obtain ⟨s, a, i, ex⟩ := fin_read fr
  obtain ⟨t, b, j, ey⟩ := fin_read fc
  have vm := val_read ey
  have hb : b ≠ 0 := by
    intro h0
    subst h0
    have : dv t 0 j = 0 := by cases t <;> simp [dv, sgn]
    grind
  obtain ⟨x, hx⟩ : ∃ x, bin .quo (some r) (some c) = some x := by
    show ∃ x, double.div r c = some x
    unfold Format.div
    rw [ex, ey]
    simp only [Datum.quotient, if_neg hb, Option.map_some]
    exact ⟨_, rfl⟩
  exact ⟨x, hx, bits_ok (op := .quo) (x := r) (y := c) hx⟩
theorem floor_is {x d : Nat} (h : ab d = (ab x).map floor) (hx : isN x = false) : isN d = false := by
  rw [ab_some hx] at h
  cases hd : isN d
  · rfl
  · rw [ab_none hd] at h; cases h
theorem run_conv (q : Nat) (z : Int) (h : floatToIntVal .f64 q .i64 = some z) (w : World) : (convert 22 3 (.float .f64 q)).run Tryz.prog w = .ok (.int .i64 z) w :=
  run_convert_float_int w 22 3 .f64 .i64 q z (by kernel_rfl) Tryz.underlying3 h
theorem run_fl_some {P : Program} (op : BinOp) (t : TypeId) {x y r : Nat} (w : World) (h : bin op (ab x) (ab y) = some r) : (binOp op t (.float .f64 x) (.float .f64 y)).run P w = .ok (.float .f64 r) w :=
  run_float_arith w op t .f64 x y r (by rw [bits_ab]; exact h)
theorem read_is {y : Nat} (h : isN y = false) : (∃ s m e, double.read y = .number s m e) ∨ ∃ s, double.read y = .infinity s := by
  unfold isN at h
  cases e : double.read y with
  | number s m i => exact Or.inl ⟨s, m, i, rfl⟩
  | infinity s => exact Or.inr ⟨s, rfl⟩
  | nan s f => rw [e] at h; cases h
/-- What stands in the turn of an echo is a number or endless. -/
theorem phase_is {r wv tn : Nat} (hr : fin (ab r) = true) (hw : goodF (ab wv) = true) (ht : fin (ab tn) = true) : ∃ y z u, bin .mul (ab 4611686018427387904) (ab r) = some y ∧ bin .quo (ab y) (ab wv) = some z ∧ bin .sub (ab tn) (ab z) = some u ∧ phaseF (ab tn) (ab r) (ab wv) = ab u := by
  have fr := fin_iff hr
  have ft := fin_iff ht
  unfold goodF at hw
  rw [Bool.and_eq_true] at hw
  have fw := fin_iff hw.1
  have pw' := hw.2
  have f0 : Fnt 0 ∧ val 0 = 0 := ⟨by unfold Fnt; decide, val0⟩
  have f2 : Fnt 4611686018427387904 := by unfold Fnt; decide
  rw [gtF_val fw f0.1, f0.2] at pw'
  simp at pw'
  obtain ⟨y, hy⟩ := bin_some_mul f2 fr
  have ny : isN y = false := bits_ok (op := .mul) (x := 4611686018427387904) (y := r) hy
  obtain ⟨t, b, j, ey⟩ := fin_read fw
  have vm := val_read ey
  have hb : b ≠ 0 := by
    intro h0
    subst h0
    have : dv t 0 j = 0 := by cases t <;> simp [dv, sgn]
    grind
  obtain ⟨z, hz⟩ : ∃ z, bin .quo (some y) (some wv) = some z := by
    show ∃ x, double.div y wv = some x
    unfold Format.div
    rw [ey]
    rcases read_is ny with ⟨s, m, i, e⟩ | ⟨s, e⟩ <;> rw [e]
    · simp only [Datum.quotient, if_neg hb, Option.map_some]
      exact ⟨_, rfl⟩
    · exact ⟨_, rfl⟩
  have nz : isN z = false := bits_ok (op := .quo) (x := y) (y := wv) hz
  obtain ⟨s1, m1, i1, et⟩ := fin_read ft
  obtain ⟨u, hu⟩ : ∃ u, bin .sub (some tn) (some z) = some u := by
    show ∃ x, double.sub tn z = some x
    unfold Format.sub
    rw [et]
    rcases read_is nz with ⟨s, m, i, e⟩ | ⟨s, e⟩ <;> rw [e]
    · exact ⟨_, rfl⟩
    · exact ⟨_, rfl⟩
  have nu : isN u = false := bits_ok (op := .sub) (x := tn) (y := z) hu
  exact ⟨y, z, u, by rw [Fnt.ab f2, Fnt.ab fr]; exact hy, by rw [ab_some ny, Fnt.ab fw]; exact hz, by rw [Fnt.ab ft, ab_some nz]; exact hu, by unfold phaseF; rw [Fnt.ab f2, Fnt.ab fr, hy, Fnt.ab fw, hz, Fnt.ab ft, hu, ab_some nu]⟩
end Go.Proofs.YtflngnnoibkkoaaGreat

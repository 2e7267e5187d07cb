/- Scene: targets that are handed in; the first error. -/
import Derived.Test.YtgalgnopjcpocaaCa
namespace Go.Proofs.Ytgalgnopjcpocaa
open Go.ChangeShapes Go.WideShapes Go.ChangeAt Go.RowKit Go.Fl Ieee
attribute [local go_sem] run_store_float run_store_c isSome_set call20 call33 run_neg fold_eq fold_ne fold_lt fold_gt abs_eq

/-- A target's five numbers. -/
structure Tg where
  r : Nat
  s : Nat
  a : Nat
  t : Nat
  b : Nat
/-- Targets as they lie in memory. -/
def TL (w : World) (g n : Nat) (f : Nat → Tg) : Prop := ∀ i, i < n → w.cell? ⟨g, i * 5, none⟩ = some (.float .f64 (f i).r) ∧ w.cell? ⟨g, i * 5 + 1, none⟩ = some (.float .f64 (f i).s) ∧ w.cell? ⟨g, i * 5 + 2, none⟩ = some (.float .f64 (f i).a) ∧ w.cell? ⟨g, i * 5 + 3, none⟩ = some (.float .f64 (f i).t) ∧ w.cell? ⟨g, i * 5 + 4, none⟩ = some (.float .f64 (f i).b)
theorem TL.up {w w' : World} {g n : Nat} {f : Nat → Tg} (h : TL w g n f) (hu : Up w w') : TL w' g n f := fun i hi => by
  obtain ⟨h1, h2, h3, h4, h5⟩ := h i hi
  exact ⟨cell_up h1 hu, cell_up h2 hu, cell_up h3 hu, cell_up h4 hu, cell_up h5 hu⟩
theorem TL.but {w w' : World} {g B n : Nat} {f : Nat → Tg} (h : TL w g n f) (hu : But B w w') (hne : g ≠ B) : TL w' g n f := fun i hi => by
  obtain ⟨h1, h2, h3, h4, h5⟩ := h i hi
  exact ⟨hu.cell hne h1, hu.cell hne h2, hu.cell hne h3, hu.cell hne h4, hu.cell hne h5⟩
def finT (t : Tg) : Bool := fin4F t.r t.s t.a t.t
theorem cells5 (w : World) (a b c d e : Nat) : (w.alloc (.cells #[.float .f64 a, .float .f64 b, .float .f64 c, .float .f64 d, .float .f64 e] 67)).cell? ⟨w.heap.size, 0, none⟩ = some (.float .f64 a) ∧ (w.alloc (.cells #[.float .f64 a, .float .f64 b, .float .f64 c, .float .f64 d, .float .f64 e] 67)).cell? ⟨w.heap.size, 1, none⟩ = some (.float .f64 b) ∧ (w.alloc (.cells #[.float .f64 a, .float .f64 b, .float .f64 c, .float .f64 d, .float .f64 e] 67)).cell? ⟨w.heap.size, 2, none⟩ = some (.float .f64 c) ∧ (w.alloc (.cells #[.float .f64 a, .float .f64 b, .float .f64 c, .float .f64 d, .float .f64 e] 67)).cell? ⟨w.heap.size, 3, none⟩ = some (.float .f64 d) ∧ (w.alloc (.cells #[.float .f64 a, .float .f64 b, .float .f64 c, .float .f64 d, .float .f64 e] 67)).cell? ⟨w.heap.size, 4, none⟩ = some (.float .f64 e) :=
  ⟨new_cell _ _ _ _ _ rfl, new_cell _ _ _ _ _ rfl, new_cell _ _ _ _ _ rfl, new_cell _ _ _ _ _ rfl, new_cell _ _ _ _ _ rfl⟩
set_option maxRecDepth 20000 in
theorem t55z (p : Option Addr) (c : Nat) (w : World) : Calls Try.prog 55 #[.slice p 0 c] w (BU true w) := by
  go_enter Try.func55, Try.ntmps55
  go_wp2
  go_loopw [7] (fun vi wr => vi = .int .i64 0 ∧ wr = w) (fun _ _ => 0)
  case atStart => exact ⟨rfl, rfl⟩
  case round =>
    obtain ⟨rfl, rfl⟩ := hrel
    go_wp2
    go_ret
    exact ⟨rfl, Up.refl _⟩
set_option maxRecDepth 20000 in
set_option maxHeartbeats 1000000 in
theorem t55 (g n c k : Nat) (f : Nat → Tg) (b : Bool) (w : World) (h : TL w g n f) (hn : n ≤ 1000000) (hk : ∀ i, i < k → finT (f i) = true) (hb : k < n ∧ finT (f k) = false ∧ b = false ∨ k = n ∧ b = true) :
    Calls Try.prog 55 #[.slice (some ⟨g, 0, none⟩) n c] w (BU b w) := by
  have H : Hid (TL w g n f) := h
  have HB : Hid (k < n ∧ finT (f k) = false ∧ b = false ∨ k = n ∧ b = true) := hb
  have HK : Hid (∀ i, i < k → finT (f i) = true) := hk
  have hkn : k ≤ n := by omega
  clear h hb hk
  go_enter Try.func55, Try.ntmps55
  go_wp2
  go_loopw [7] (fun vi wr => ∃ i : Nat, i ≤ k ∧ vi = .int .i64 i ∧ Hid (Up w wr)) (fun vi _ => n - (intOf vi).toNat)
  case atStart => exact ⟨0, by omega, rfl, Up.refl _⟩
  case round =>
    obtain ⟨i, hi, rfl, HU⟩ := hrel
    by_cases hlt : i < n
    · have z1 : (i : Int) < (n : Int) := by omega
      have z2 : (0 : Int) ≤ (i : Int) := by omega
      obtain ⟨h0, h1, h2, h3, h4⟩ := (H.out.up HU.out) i hlt
      obtain ⟨bb, hbb⟩ : ∃ bb, finT (f i) = bb := ⟨_, rfl⟩
      have HBB : Hid (finT (f i) = bb) := hbb
      unfold finT at hbb
      generalize (f i).r = r at h0 hbb
      generalize (f i).s = s at h1 hbb
      generalize (f i).a = a at h2 hbb
      generalize (f i).t = t at h3 hbb
      generalize (f i).b = q at h4
      have HF : Hid (fin4F r s a t = bb) := hbb
      clear hbb
      obtain ⟨d0, d1, d2, d3, d4⟩ := cells5 wr r s a t q
      cases bb
      · have hik : ¬ i < k := fun e => by have q1 := HK.out i e; rw [HBB.out] at q1; cases q1
        obtain rfl : i = k := by omega
        have hb : b = false := by
          rcases HB.out with ⟨_, q, r⟩ | ⟨q, r⟩
          · exact r
          · omega
        subst hb
        clear HB HK
        go_wp2_with (go_at_call 54; (with_reducible refine (fin4 _ _ _ _ _ (by simp)).mono ?_); rintro e w' ⟨rfl, hw⟩; subst w'; rw [HF.out])
        go_ret
        exact ⟨rfl, (HU.out.trans (Up.alloc _ _)).trans (Up.alloc _ _)⟩
      · have hik : i < k := by
          rcases HB.out with ⟨_, q1, r⟩ | ⟨q, r⟩
          · by_cases e : i = k
            · subst e; rw [HBB.out] at q1; cases q1
            · omega
          · omega
        go_wp2_with (go_at_call 54; (with_reducible refine (fin4 _ _ _ _ _ (by simp)).mono ?_); rintro e w' ⟨rfl, hw⟩; subst w'; rw [HF.out])
        go_roundw
        case rel => exact ⟨i + 1, by omega, by go_num, (HU.out.trans (Up.alloc _ _)).trans (Up.alloc _ _)⟩
        case measure => simp [intOf]; omega
    · obtain rfl : i = n := by omega
      have hb : b = true := by
        rcases HB.out with ⟨q, _⟩ | ⟨_, r⟩
        · omega
        · exact r
      subst hb
      go_wp2
      go_ret
      exact ⟨rfl, HU⟩
/-- The first error. -/
def refF (z0 : Int) (b1 b2 b3 b4 b5 : Bool) : Int := if z0 ≠ 0 then z0 else if b1 then 2 else if b2 then 3 else if b3 && !b4 && b5 then 0 else 6
set_option maxRecDepth 20000 in
set_option maxHeartbeats 1000000 in
theorem t38 {c v r tm wd n T cp : Nat} {E : Int} {R : Nat} {p : Option Addr} {w : World} {z0 : Int} {b3 b4 b5 : Bool} (h0 : checkF (ab c) (ab v) (ab r) E R = z0) (hn : n < 4611686018427387904) (hT : T < 4611686018427387904) (h3 : (fin (ab tm) && fin (ab wd)) = b3) (h4 : ltF (ab wd) (ab 0) = b4)
    (h5 : muchF T R n = false → ∀ w', Up w w' → Calls Try.prog 55 #[.slice p T cp] w' (BU b5 w')) :
    Calls Try.prog 38 #[.agg #[.float .f64 c, .float .f64 v, .float .f64 r, .int .i64 E, .int .i64 R], .int .i64 n, .slice p T cp, .float .f64 tm, .float .f64 wd] w (IU w (refF z0 (decide (n = 0)) (muchF T R n) b3 b4 b5)) := by
  have HB := BC.new w c v r E R
  have HU : Hid (Up w (w.alloc (.cells #[.float .f64 c, .float .f64 v, .float .f64 r, .int .i64 E, .int .i64 R] 63))) := Up.alloc _ _
  obtain ⟨b0', b1', b2', b3', b4'⟩ := HB
  have H9 : Hid (∀ w, Calls Try.prog 52 #[.agg #[.float .f64 c, .float .f64 v, .float .f64 r, .int .i64 E, .int .i64 R]] w (IU w z0)) := fun w => by rw [← h0]; exact t52 c v r E R w
  have HR : Hid (z0 = 0 → R ≤ 256) := fun e => by
    rw [← h0] at e
    unfold checkF at e
    split at e
    · omega
    · cases e
  have H5 : Hid (muchF T R n = false → ∀ w', Up w w' → Calls Try.prog 55 #[.slice p T cp] w' (BU b5 w')) := h5
  have H3 : Hid ((fin (ab tm) && fin (ab wd)) = b3) := h3
  clear h0 h3 h5
  by_cases hz : z0 = 0
  · subst hz
    have hR := HR.out rfl
    by_cases hn0 : n = 0
    · subst hn0
      have e : refF 0 (decide (0 = 0)) (muchF T R 0) b3 b4 b5 = 2 := by simp [refF]
      rw [e]
      go_enter Try.func38, Try.ntmps38
      go_wp2_with (go_at_call 52; (with_reducible refine (H9.out _).mono ?_); rintro e w1 ⟨rfl, U1⟩)
      go_ret
      exact ⟨rfl, HU.out.trans U1.out⟩
    · have hn1 : ((n : Int) == 0) = false := by rw [beq_eq_false_iff_ne]; omega
      obtain ⟨b2, hb2⟩ : ∃ b, muchF T R n = b := ⟨_, rfl⟩
      have HM : Hid (∀ w, Calls Try.prog 53 #[.int .i64 T, .int .i64 R, .int .i64 n] w (BR b2 w)) := fun w => by rw [← hb2]; exact t53 T R n w hT hn hR
      have HB2 : Hid (muchF T R n = b2) := hb2
      rw [hb2, decide_eq_false hn0]
      clear hb2 hn0
      cases b2
      · cases b3
        · have e : refF 0 false false false b4 b5 = 6 := by simp [refF]
          rw [e]
          go_enter Try.func38, Try.ntmps38
          go_wp2_with (first
            | (go_at_call 52; (with_reducible refine (H9.out _).mono ?_); rintro e w1 ⟨rfl, U1⟩; have c4 := cell_up b4' U1.out)
            | (go_at_call 53; (with_reducible refine (HM.out _).mono ?_); rintro e w' ⟨rfl, hw⟩; subst w')
            | (go_at_call 54; (with_reducible refine (fin2 _ _ _ (by simp)).mono ?_); rintro e w' ⟨rfl, hw⟩; subst w'; rw [H3.out]))
          go_ret
          exact ⟨rfl, (HU.out.trans U1.out).trans (Up.alloc _ _)⟩
        · cases b4
          · cases b5
            · have e : refF 0 false false true false false = 6 := by simp [refF]
              rw [e]
              go_enter Try.func38, Try.ntmps38
              go_wp2_with (first
                | (go_at_call 52; (with_reducible refine (H9.out _).mono ?_); rintro e w1 ⟨rfl, U1⟩; have c4 := cell_up b4' U1.out)
                | (go_at_call 53; (with_reducible refine (HM.out _).mono ?_); rintro e w' ⟨rfl, hw⟩; subst w')
                | (go_at_call 54; (with_reducible refine (fin2 _ _ _ (by simp)).mono ?_); rintro e w' ⟨rfl, hw⟩; subst w'; rw [H3.out])
                | (go_at_call 55; (with_reducible refine (H5.out HB2.out _ ((HU.out.trans U1.out).trans (Up.alloc _ _))).mono ?_); rintro e w2 ⟨rfl, U2⟩))
              go_ret
              exact ⟨rfl, ((HU.out.trans U1.out).trans (Up.alloc _ _)).trans U2.out⟩
            · have e : refF 0 false false true false true = 0 := by simp [refF]
              rw [e]
              go_enter Try.func38, Try.ntmps38
              go_wp2_with (first
                | (go_at_call 52; (with_reducible refine (H9.out _).mono ?_); rintro e w1 ⟨rfl, U1⟩; have c4 := cell_up b4' U1.out)
                | (go_at_call 53; (with_reducible refine (HM.out _).mono ?_); rintro e w' ⟨rfl, hw⟩; subst w')
                | (go_at_call 54; (with_reducible refine (fin2 _ _ _ (by simp)).mono ?_); rintro e w' ⟨rfl, hw⟩; subst w'; rw [H3.out])
                | (go_at_call 55; (with_reducible refine (H5.out HB2.out _ ((HU.out.trans U1.out).trans (Up.alloc _ _))).mono ?_); rintro e w2 ⟨rfl, U2⟩))
              go_ret
              exact ⟨rfl, ((HU.out.trans U1.out).trans (Up.alloc _ _)).trans U2.out⟩
          · have e : refF 0 false false true true b5 = 6 := by simp [refF]
            rw [e]
            go_enter Try.func38, Try.ntmps38
            go_wp2_with (first
              | (go_at_call 52; (with_reducible refine (H9.out _).mono ?_); rintro e w1 ⟨rfl, U1⟩; have c4 := cell_up b4' U1.out)
              | (go_at_call 53; (with_reducible refine (HM.out _).mono ?_); rintro e w' ⟨rfl, hw⟩; subst w')
              | (go_at_call 54; (with_reducible refine (fin2 _ _ _ (by simp)).mono ?_); rintro e w' ⟨rfl, hw⟩; subst w'; rw [H3.out]))
            go_ret
            exact ⟨rfl, (HU.out.trans U1.out).trans (Up.alloc _ _)⟩
      · have e : refF 0 false true b3 b4 b5 = 3 := by simp [refF]
        rw [e]
        go_enter Try.func38, Try.ntmps38
        go_wp2_with (first
          | (go_at_call 52; (with_reducible refine (H9.out _).mono ?_); rintro e w1 ⟨rfl, U1⟩; have c4 := cell_up b4' U1.out)
          | (go_at_call 53; (with_reducible refine (HM.out _).mono ?_); rintro e w' ⟨rfl, hw⟩; subst w'))
        go_ret
        exact ⟨rfl, HU.out.trans U1.out⟩
  · have e : refF z0 (decide (n = 0)) (muchF T R n) b3 b4 b5 = z0 := by simp [refF, hz]
    rw [e]
    have hz1 : (z0 != 0) = true := by simp [hz]
    go_enter Try.func38, Try.ntmps38
    go_wp2_with (go_at_call 52; (with_reducible refine (H9.out _).mono ?_); rintro e w1 ⟨rfl, U1⟩)
    go_ret
    exact ⟨rfl, HU.out.trans U1.out⟩
end Go.Proofs.Ytgalgnopjcpocaa

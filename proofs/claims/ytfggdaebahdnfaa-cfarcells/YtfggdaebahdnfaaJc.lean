/- CfarLines: the walk. -/
import Derived.Test.YtfggdaebahdnfaaJb
namespace Go.Proofs.Ytfggdaebahdnfaa
open Go.ChangeShapes Go.WideShapes Go.ChangeAt Go.RowKit Go.Fl Go.Sort
attribute [local go_sem] run_store_float run_store_func call35 call46 run_neg fold_eq fold_ne fold_lt fold_gt abs_eq

/-- A look, in memory. -/
def LK (b : Nat) (way g t m : Int) (x : Nat) (W : World) : Prop := W.cell? ⟨b, 0, none⟩ = some (.int .i8 way) ∧ W.cell? ⟨b, 1, none⟩ = some (.int .i64 g) ∧ W.cell? ⟨b, 2, none⟩ = some (.int .i64 t) ∧ W.cell? ⟨b, 3, none⟩ = some (.int .i64 m) ∧ W.cell? ⟨b, 4, none⟩ = some (.float .f64 x)
theorem LK.up {b : Nat} {way g t m : Int} {x : Nat} {W W' : World} (h : LK b way g t m x W) (hu : Up W W') : LK b way g t m x W' := ⟨cell_up h.1 hu, cell_up h.2.1 hu, cell_up h.2.2.1 hu, cell_up h.2.2.2.1 hu, cell_up h.2.2.2.2 hu⟩
theorem LK.new (w : World) (way g t m : Int) (x : Nat) : LK w.heap.size way g t m x (w.alloc (.cells #[.int .i8 way, .int .i64 g, .int .i64 t, .int .i64 m, .float .f64 x] 26)) := ⟨World.cell?_alloc_at _ _ _ _ rfl, World.cell?_alloc_at _ _ _ _ rfl, World.cell?_alloc_at _ _ _ _ rfl, World.cell?_alloc_at _ _ _ _ rfl, World.cell?_alloc_at _ _ _ _ rfl⟩
theorem t8k {n x : Nat} {a b T m : Int} {v : Bool} (hn : n < 9223372036854775808) (hv : workF n T = v) (w : World) : Calls Try.prog 8 #[.int .i64 n, .agg #[.int .i8 a, .int .i64 b, .int .i64 T, .int .i64 m, .float .f64 x]] w fun e w' => e = .returned (.bool v) ∧ Hid (Up w w') := hv ▸ t8 hn w
theorem work_small {n : Nat} {T : Int} (h : workF n T = false) : n ≤ 65536 := by
  unfold workF at h
  simp only [Bool.or_eq_false_iff, decide_eq_false_iff_not] at h
  omega
set_option maxHeartbeats 4000000 in
theorem t3 {w : World} {p : Option Addr} {n cap x : Nat} {d : Array Nat} {way : Int} (g t m k : Int) (h1 : -128 ≤ way) (h2 : way ≤ 127) (h : SV w p n cap d) (hn : n < 9223372036854775808) :
    Calls Try.prog 3 #[.slice p n cap, .agg #[.int .i8 way, .int .i64 g, .int .i64 t, .int .i64 m, .float .f64 x], .int .i64 k] w (TU w) := by
  have H : Hid (SV w p n cap d) := h
  clear h
  obtain ⟨b, hb⟩ : ∃ b, workF n t = b := ⟨_, rfl⟩
  have HB : Hid _ := hb
  clear hb
  cases b
  rotate_left
  · go_enter Try.func3, Try.ntmps3
    go_wp2_with (first
      | (go_at_call 8; (with_reducible refine (t8k hn HB.out _).mono ?_); rintro e w1 ⟨rfl, HU1⟩)
      | (go_at_call 9; (with_reducible refine (t9 _).mono ?_); rintro e w2 ⟨rfl, HU2⟩))
    go_ret
    exact ⟨rfl, ((Up.alloc _ _).trans HU1.out).trans HU2.out⟩
  have hs := work_small HB.out
  obtain ⟨lc, hlc⟩ : ∃ c, levE d.size g t m k = c := ⟨_, rfl⟩
  obtain ⟨nc, hnc⟩ : ∃ c, linE d.size g t m x = c := ⟨_, rfl⟩
  obtain ⟨N, hN⟩ : ∃ N, (linD way g t m x d).length = N := ⟨_, rfl⟩
  have C11 : Hid (∀ W q c, SV W q n c d → Calls Try.prog 11 #[.slice q n c, .int .i64 k, .int .i8 way, .int .i64 g, .int .i64 t, .int .i64 m] W fun e w' => ∃ r, e = .returned (.tuple #[.float .f64 r, .int .i64 lc]) ∧ Hid (ab r = levR way g t m k d) ∧ Hid (Up W w')) := fun W q c hv => hlc ▸ t11 g t m k h1 h2 hv
  have C12 : Hid (∀ W q c, SV W q n c d → Calls Try.prog 12 #[.slice q n c, .int .i64 k, .int .i8 way, .int .i64 g, .int .i64 t, .int .i64 m] W fun e w' => ∃ r, e = .returned (.tuple #[.float .f64 r, .int .i64 lc]) ∧ Hid (ab r = levR way g t m k d) ∧ Hid (Up W w')) := fun W q c hv => hlc ▸ t12 g t m k h1 h2 hv
  have C15 : Hid (∀ W q c, SV W q n c d → Calls Try.prog 15 #[.slice q n c, .int .i8 way, .int .i64 g, .int .i64 t, .int .i64 m, .float .f64 x] W fun e w' => ∃ p c, e = .returned (.tuple #[.slice p N c, .int .i64 nc]) ∧ Hid (BR W.heap.size w' (.slice p N c) (linD way g t m x d)) ∧ Hid (Up W w')) := fun W q c hv => by
    have := t15 g t m (x := x) h1 h2 hv
    unfold LN at this
    rw [hN, hnc] at this; exact this
  have C16 : Hid (∀ W q c, SV W q n c d → Calls Try.prog 16 #[.slice q n c, .int .i8 way, .int .i64 g, .int .i64 t, .int .i64 m, .float .f64 x] W fun e w' => ∃ p c, e = .returned (.tuple #[.slice p N c, .int .i64 nc]) ∧ Hid (BR W.heap.size w' (.slice p N c) (linD way g t m x d)) ∧ Hid (Up W w')) := fun W q c hv => by
    have := t16 g t m (x := x) h1 h2 hv
    unfold LN at this
    rw [hN, hnc] at this; exact this
  have bN : N ≤ 65536 := by
    rw [← hN]; unfold linD; split
    · rw [linL_len, H.out.len]; exact hs
    · simp
  have HN : Hid _ := hN
  clear hlc hnc hN
  go_enter Try.func3, Try.ntmps3
  go_wp2_with (first
    | (go_at_call 8; (with_reducible refine (t8k hn HB.out _).mono ?_); rintro e w1 ⟨rfl, HU1⟩; (have UK1 : Hid (Up w w1) := (Up.alloc _ _).trans HU1.out); (have K1 : Hid (LK w.heap.size way g t m x w1) := (LK.new w _ _ _ _ _).up HU1.out); clear HU1)
    | (go_at_call 10; (with_reducible refine (t10 (H.out.up UK1.out) (by omega)).mono ?_); rintro e w2 ⟨gx, cx, rfl, OX, HU2⟩; (have UK2 : Hid (Up w w2) := UK1.out.trans HU2.out); (obtain ⟨l0, l1, l2, l3, l4⟩ := K1.out.up HU2.out); (have K2 : Hid (LK w.heap.size way g t m x w2) := K1.out.up HU2.out); clear HU2 K1 UK1)
    | (go_at_call 11; (with_reducible refine (C11.out _ _ _ (OX.out.sv H.out.len H.out.fit).1).mono ?_); rintro e w3 ⟨r, rfl, hr, HU3⟩; (have UK3 : Hid (Up w w3) := UK2.out.trans HU3.out); (have OX3 : Hid (OW _ w3 gx n cx d) := OX.out.up HU3.out); clear l0 l1 l2 l3 l4; (obtain ⟨l0, l1, l2, l3, l4⟩ := K2.out.up HU3.out); (have K3 : Hid (LK w.heap.size way g t m x w3) := K2.out.up HU3.out); clear HU3 K2 UK2 OX)
    | (go_at_call 12; (with_reducible refine (C12.out _ _ _ (H.out.up UK3.out)).mono ?_); rintro e w4 ⟨r4, rfl, hr4, HU4⟩; (have UK4 : Hid (Up w w4) := UK3.out.trans HU4.out); (have OX4 : Hid (OW _ w4 gx n cx d) := OX3.out.up HU4.out); clear l0 l1 l2 l3 l4; (have K4 : Hid (LK w.heap.size way g t m x w4) := K3.out.up HU4.out); (have HR : Hid (ab r = ab r4) := hr.out.trans hr4.out.symm); clear HU4 K3 UK3 OX3 hr hr4)
    | (go_at_call 13; (with_reducible refine (t13k HR.out _).mono ?_); rintro e w' ⟨rfl, hw⟩; subst w')
    | (go_at_call 14; (with_reducible refine (t14 (H.out.up UK4.out) OX4.out (by omega)).mono ?_); rintro e w5 ⟨rfl, HU5⟩; (have UK5 : Hid (Up w w5) := UK4.out.trans HU5.out); (have OX5 : Hid (OW _ w5 gx n cx d) := OX4.out.up HU5.out); (obtain ⟨l0, l1, l2, l3, l4⟩ := K4.out.up HU5.out); (have K5 : Hid (LK w.heap.size way g t m x w5) := K4.out.up HU5.out); clear HU5 K4 UK4 OX4)
    | (go_at_call 15; (with_reducible refine (C15.out _ _ _ (OX5.out.sv H.out.len H.out.fit).1).mono ?_); rintro e w6 ⟨pc, cc, rfl, BC, HU6⟩; (have UK6 : Hid (Up w w6) := UK5.out.trans HU6.out); (have OX6 : Hid (OW _ w6 gx n cx d) := OX5.out.up HU6.out); clear l0 l1 l2 l3 l4; (obtain ⟨l0, l1, l2, l3, l4⟩ := K5.out.up HU6.out))
    | (go_at_call 16; (with_reducible refine (C16.out _ _ _ (H.out.up UK6.out)).mono ?_); rintro e w7 ⟨pd, cd, rfl, BD, HU7⟩; (have UK7 : Hid (Up w w7) := UK6.out.trans HU7.out); (have OX7 : Hid (OW _ w7 gx n cx d) := OX6.out.up HU7.out); clear l0 l1 l2 l3 l4; (have BC7 : Hid (BR w5.heap.size w7 (.slice pc N cc) (linD way g t m x d)) := OR.up BC.out HU7.out); (have UX : Hid (Up w5 w7) := HU6.out.trans HU7.out))
    | (go_at_call 14; (with_reducible refine (t14 (H.out.up UK7.out) OX7.out (by omega)).mono ?_); rintro e w8 ⟨rfl, HU8⟩))
  have OX8 : Hid (OW w1.heap.size w8 gx n cx d) := OX7.out.up HU8.out
  have BC8 : Hid (BR w5.heap.size w8 (.slice pc N cc) (linD way g t m x d)) := OR.up BC7.out HU8.out
  have BD8 : Hid (BR w6.heap.size w8 (.slice pd N cd) (linD way g t m x d)) := OR.up BD.out HU8.out
  have U8 : Hid (Up w5 w8) := UX.out.trans HU8.out
  have LX : Hid (gx < w5.heap.size) := OX5.out.lt.2
  have LC : Hid (∀ gc, pc = some ⟨gc, 0, none⟩ → gc < w6.heap.size) := fun gc e => by
    have h := BC.out
    rw [e] at h
    exact (OR.at_ h).2
  have U5 : Hid (Up w w5) := UK5.out
  have S5 : Hid (OW w1.heap.size w5 gx n cx d) := OX5.out
  clear OX7 BC7 BD UX HU8 OX5 BC UK5 UK6 UK7 OX6 HU6 HU7 HB C11 C12 C15 C16 HR K5 OX8
  generalize linD way g t m x d = LD at HN BC8 BD8
  go_loopw [16, 115] (fun _ vi wr => ∃ (i : Nat) (l : List Bool), i ≤ N ∧ vi = .int .i64 i ∧ Hid (BR w5.heap.size wr (.slice pc N cc) l) ∧ Hid (BR w6.heap.size wr (.slice pd N cd) LD) ∧ Hid (∀ j, i ≤ j → j < N → l[j]! = LD[j]!) ∧ Hid (Up w5 wr)) (fun _ vi _ => N - (intOf vi).toNat)
  case atStart => exact ⟨0, LD, by omega, rfl, BC8, BD8, fun j _ _ => rfl, U8⟩
  case round =>
    clear BC8 BD8 U8
    obtain ⟨i, l, hin, rfl, BC, BD, HV, UW⟩ := hrel
    rename World => W
    by_cases hlt : i < N
    · obtain ⟨p', c', e1, hp1⟩ := OR.form BC.out
      have hl1 : l.length = N := OR.len BC.out
      have hl2 : LD.length = N := OR.len BD.out
      obtain ⟨gc, hgc⟩ := hp1 (by omega)
      simp only [Value.slice.injEq] at e1
      have hpc := e1.1.trans hgc
      obtain ⟨p2, c2, e2, hp2⟩ := OR.form BD.out
      obtain ⟨gd, hgd⟩ := hp2 (by omega)
      simp only [Value.slice.injEq] at e2
      have hpd := e2.1.trans hgd
      subst hpc hpd
      have cc0 := OR.cell BC.out (i := i) (by omega)
      have cd0 := OR.cell BD.out (i := i) (by omega)
      have fr := OR.frz BC.out i
      rw [HV.out i (Nat.le_refl _) hlt] at cc0
      generalize LD[i]! = v at cc0 cd0
      have hz : (i : Int) < (N : Int) := by omega
      have hz2 : (0 : Int) ≤ (i : Int) := by omega
      clear e1 hgc hp1 e2 hgd hp2
      have HL1 : Hid _ := hl1
      have HL2 : Hid _ := hl2
      clear hl1 hl2
      go_wp2_with fail
      go_quiet (fail)
      have cc1 : (W.drewN nq).cell? ⟨gc, i, none⟩ = some (.bool v) := cc0
      have fr1 : (W.drewN nq).frozen? ⟨gc, i, none⟩ = false := fr
      have BC1 : Hid (BR w5.heap.size (W.drewN nq) (.slice (some ⟨gc, 0, none⟩) N cc) l) := OR.up BC.out (Up.drewN _ _)
      have BD1 : Hid (BR w6.heap.size (W.drewN nq) (.slice (some ⟨gd, 0, none⟩) N cd) LD) := OR.up BD.out (Up.drewN _ _)
      have UW1 : Hid (Up w5 (W.drewN nq)) := UW.out.trans (Up.drewN _ _)
      clear cc0 cd0 fr BC BD UW
      generalize W.drewN nq = W1 at *
      have HP : Hid (∀ z : Bool, BR w5.heap.size (W1.setCell ⟨gc, i, none⟩ (.bool z)) (.slice (some ⟨gc, 0, none⟩) N cc) (l.set i z) ∧ BR w6.heap.size (W1.setCell ⟨gc, i, none⟩ (.bool z)) (.slice (some ⟨gd, 0, none⟩) N cd) LD ∧ Up w5 (W1.setCell ⟨gc, i, none⟩ (.bool z))) := fun z => by
        obtain ⟨s1, s2⟩ := OR.put BC1.out i z
        refine ⟨s1, OR.far BD1.out s2 ?_, s2.up UW1.out (OR.at_ BC1.out).1⟩
        intro e
        simp only [Value.ownBlock, Option.some.injEq] at e
        have q1 := (OR.at_ BD1.out).1
        have q2 := LC.out gc rfl
        omega
      clear BC1 BD1 UW1
      go_wp2
      go_roundw
      case rel =>
        refine ⟨i + 1, l.set i (!v), by omega, by go_num, (HP.out _).1, (HP.out _).2.1, fun j hj hj2 => ?_, (HP.out _).2.2⟩
        rw [get_set' l i _ (by rw [HL1.out]; exact hj2), if_neg (by omega)]
        exact HV.out j (by omega) hj2
      case measure => simp [intOf]; omega
    · obtain rfl : i = N := by omega
      go_wp2_with (first
        | (go_at_call 14; (with_reducible refine (t14 (H.out.up (U5.out.trans UW.out)) (S5.out.up UW.out) (by omega)).mono ?_); rintro e w9 ⟨rfl, HU9⟩)
        | (go_at_call 9; (with_reducible refine (t9 _).mono ?_); rintro e w10 ⟨rfl, HU10⟩))
      go_ret
      exact ⟨rfl, ((U5.out.trans UW.out).trans HU9.out).trans HU10.out⟩
end Go.Proofs.Ytfggdaebahdnfaa

/- The walk of NoiseLeaps. -/
import Derived.Test.YtcocliilapeelaaQ
import Derived.Test.YtcocliilapeelaaBb
namespace Go.Proofs.Ytcocliilapeelaa
open Go.ChangeShapes Go.WideShapes Go.ChangeAt Go.RowKit Go.Fl Ieee
attribute [local go_sem] run_store_float run_store_complex call38 call37 run_neg fold_eq fold_ne fold_lt fold_gt abs_eq

/-- Two sources of one's own. -/
structure LP (w W : World) (x y : Nat) (X Y : Int) : Prop where
  up : Up w W
  sx : SC W x X
  sy : SC W y Y
  ne : x ≠ y
  lx : w.heap.size ≤ x
  ly : w.heap.size ≤ y
theorem LP.x {w W W' : World} {x y : Nat} {X Y X' : Int} (h : LP w W x y X Y) (s : SC W' x X') (b : But x W W') : LP w W' x y X' Y :=
  ⟨b.up h.up h.lx, s, h.sy.but b (Ne.symm h.ne), h.ne, h.lx, h.ly⟩
theorem LP.y {w W W' : World} {x y : Nat} {X Y Y' : Int} (h : LP w W x y X Y) (s : SC W' y Y') (b : But y W W') : LP w W' x y X Y' :=
  ⟨b.up h.up h.ly, h.sx.but b h.ne, s, h.ne, h.lx, h.ly⟩
theorem LP.other {w W W' : World} {x y g : Nat} {X Y : Int} (h : LP w W x y X Y) (b : But g W W') (hx : x ≠ g) (hy : y ≠ g) (hg : w.heap.size ≤ g) : LP w W' x y X Y :=
  ⟨b.up h.up hg, h.sx.but b hx, h.sy.but b hy, h.ne, h.lx, h.ly⟩
theorem LP.grow {w W W' : World} {x y : Nat} {X Y : Int} (h : LP w W x y X Y) (u : Up W W') : LP w W' x y X Y := ⟨h.up.trans u, h.sx.up u, h.sy.up u, h.ne, h.lx, h.ly⟩
theorem LP.cast {w W : World} {x y : Nat} {X Y X' Y' : Int} (h : LP w W x y X Y) (e : X = X') (f : Y = Y') : LP w W x y X' Y' := by subst e; subst f; exact h
/-- What a call leaves of two sources. -/
def LR (w : World) (x y : Nat) (X Y : Int) (v : Value) (e : Ending) (W' : World) : Prop := e = .returned v ∧ Hid (LP w W' x y X Y)
theorem nextX {w W : World} {x y : Nat} {X Y : Int} (h : LP w W x y X Y) : Calls Try.prog 13 #[.pointer (some ⟨x, 0, none⟩)] W (LR w x y (adv X 1) Y (.int .u64 (stir (adv X 1)))) :=
  (t13 h.sx).mono fun _ _ ⟨e, s, b⟩ => ⟨e, h.x s.out b.out⟩
theorem nextY {w W : World} {x y : Nat} {X Y : Int} (h : LP w W x y X Y) : Calls Try.prog 13 #[.pointer (some ⟨y, 0, none⟩)] W (LR w x y X (adv Y 1) (.int .u64 (stir (adv Y 1)))) :=
  (t13 h.sy).mono fun _ _ ⟨e, s, b⟩ => ⟨e, h.y s.out b.out⟩
theorem skipX {w W : World} {x y : Nat} {X Y X' : Int} (h : LP w W x y X Y) (n : Int) (hX : adv X n = X') : Calls Try.prog 14 #[.pointer (some ⟨x, 0, none⟩), .int .u64 n] W (LR w x y X' Y (.tuple #[])) :=
  (t14 h.sx n).mono fun _ _ ⟨e, s, b⟩ => ⟨e, (h.x s.out b.out).cast hX rfl⟩
theorem skipY {w W : World} {x y : Nat} {X Y Y' : Int} (h : LP w W x y X Y) (n : Int) (hY : adv Y n = Y') : Calls Try.prog 14 #[.pointer (some ⟨y, 0, none⟩), .int .u64 n] W (LR w x y X Y' (.tuple #[])) :=
  (t14 h.sy n).mono fun _ _ ⟨e, s, b⟩ => ⟨e, (h.y s.out b.out).cast rfl hY⟩
theorem stateX {w W : World} {x y : Nat} {X Y : Int} (h : LP w W x y X Y) : Calls Try.prog 11 #[.pointer (some ⟨x, 0, none⟩)] W (fun e w' => e = .returned (.int .u64 X) ∧ w' = W) := t11 h.sx
theorem stateY {w W : World} {x y : Nat} {X Y : Int} (h : LP w W x y X Y) : Calls Try.prog 11 #[.pointer (some ⟨y, 0, none⟩)] W (fun e w' => e = .returned (.int .u64 Y) ∧ w' = W) := t11 h.sy
/-- A source made: told of its place. -/
theorem newS (s : Int) {w W : World} (h : Up w W) : Calls Try.prog 7 #[.int .u64 s] W fun e W' => ∃ b, e = .returned (.pointer (some ⟨b, 0, none⟩)) ∧ Hid (SC W' b s) ∧ Hid (Up W W') ∧ Hid (w.heap.size ≤ b) ∧ Hid (W.heap.size ≤ b) :=
  (t7 s W).mono fun _ _ ⟨e, s, u⟩ => ⟨_, e, s, u, h.size, Nat.le_refl _⟩
theorem bellX {w W : World} {x y : Nat} {X Y : Int} (h : LP w W x y X Y) : Calls Try.prog 15 #[.pointer (some ⟨x, 0, none⟩)] W fun e W' => ∃ r, e = .returned (.float .f64 r) ∧ Hid (ab r = bellF X) ∧ Hid (LP w W' x y (it X 12) Y) ∧ Hid (But x W W') :=
  (t15 h.sx).mono fun _ _ ⟨r, e, hr, s, b⟩ => ⟨r, e, hr, h.x s.out b.out, b⟩

set_option maxHeartbeats 1000000 in
theorem t4a {a b n p q : Int} (m : Int) (N : Nat) (hn : n.tmod 1000 = m) (hm : m = (N : Int)) (ha : 0 ≤ a ∧ a < 2 ^ 64) (hb : 0 ≤ b ∧ b < 2 ^ 64) (hN : N < 1000) (w : World) :
    Calls Try.prog 4 #[.int .u64 a, .int .u64 b, .int .i64 n, .int .u64 p, .int .u64 q] w (TU w) := by
  have HA : Hid (0 ≤ a ∧ a < 2 ^ 64) := ha
  have E : (stir (adv a 1) == stir (adv b 1)) = (a == b) := next_eq ha hb
  have hu : IntKind.u64.wrap (N : Int) = (N : Int) := by rw [IntKind.wrap_u64]; omega
  subst hm
  have hz : ¬ ((N : Int) < 0) := by omega
  clear ha hb
  go_enter Try.func4, Try.ntmps4
  go_wp2_with (first
    | (go_at_call 9; (with_reducible refine (t9 w).mono ?_); rintro e w1 ⟨rfl, u1⟩)
    | (go_at_call 7; (with_reducible refine (newS a u1.out).mono ?_); rintro e w2 ⟨b2, rfl, s2, v2, l2, k2⟩; have u2 : Hid (Up w w2) := u1.out.trans v2.out; clear u1 v2)
    | (go_at_call 13; (with_reducible refine (t13 s2.out).mono ?_); rintro e w3 ⟨rfl, s3, v3⟩; have u3 : Hid (Up w w3) := v3.out.up u2.out l2.out; clear u2 v3 s2 s3)
    | (go_at_call 7; (with_reducible refine (newS b u3.out).mono ?_); rintro e w4 ⟨b4, rfl, s4, v4, l4, k4⟩; have u4 : Hid (Up w w4) := u3.out.trans v4.out; clear u3 v4)
    | (go_at_call 13; (with_reducible refine (t13 s4.out).mono ?_); rintro e w5 ⟨rfl, s5, v5⟩; have u5 : Hid (Up w w5) := v5.out.up u4.out l4.out; clear u4 v5 s4 s5)
    | (go_at_call 7; (with_reducible refine (newS a u5.out).mono ?_); rintro e w6 ⟨x, rfl, s6, v6, l6, k6⟩; have u6 : Hid (Up w w6) := u5.out.trans v6.out; clear u5 v6)
    | (go_at_call 7; (with_reducible refine (newS a u6.out).mono ?_); rintro e w7 ⟨y, rfl, s7, v7, l7, k7⟩; have H7 : Hid (LP w w7 x y a a) := ⟨u6.out.trans v7.out, s6.out.up v7.out, s7.out, Nat.ne_of_lt (Nat.lt_of_lt_of_le s6.out.lt k7.out), l6.out, l7.out⟩; clear u6 v7 s6 s7))
  go_loopw [38] (fun i wr => ∃ k : Nat, k ≤ N ∧ i = .int .i64 k ∧ Hid (LP w wr x y (it a k) a)) (fun i _ => N - (intOf i).toNat)
  case atStart => exact ⟨0, by omega, rfl, H7⟩
  case round =>
    clear H7
    obtain ⟨k, hk, rfl, HK⟩ := hrel
    by_cases hlt : k < N
    · have hkz : (k : Int) < (N : Int) := by omega
      go_wp2_with (go_at_call 13; (with_reducible refine (nextX HK.out).mono ?_); rintro e w8 ⟨rfl, H8⟩)
      go_roundw
      case rel => exact ⟨k + 1, by omega, by go_num, H8⟩
      case measure => simp [intOf]; omega
    · obtain rfl : k = N := by omega
      have HK2 : Hid (LP w wr x y (adv a k) a) := HK.out.cast (it_adv HA.out k) rfl
      clear HK
      go_wp2_with (first
        | (go_at_call 14; (with_reducible refine (skipY (Y' := adv a k) HK2.out _ rfl).mono ?_); rintro e w8 ⟨rfl, H8⟩; clear HK2; generalize adv a (k : Int) = X at H8)
        | (go_at_call 11; (with_reducible refine (stateX H8.out).mono ?_); rintro e w' ⟨rfl, hw⟩; subst w')
        | (go_at_call 11; (with_reducible refine (stateY H8.out).mono ?_); rintro e w' ⟨rfl, hw⟩; subst w')
        | (go_at_call 13; (with_reducible refine (nextX H8.out).mono ?_); rintro e w9 ⟨rfl, H9⟩; clear H8)
        | (go_at_call 13; (with_reducible refine (nextY H9.out).mono ?_); rintro e w10 ⟨rfl, H10⟩; clear H9)
        | (go_at_call 14; (with_reducible refine (skipX H10.out p rfl).mono ?_); rintro e w11 ⟨rfl, H11⟩; clear H10)
        | (go_at_call 14; (with_reducible refine (skipX H11.out q (adv_adv _ _ _)).mono ?_); rintro e w12 ⟨rfl, H12⟩; clear H11)
        | (go_at_call 14; (with_reducible refine (skipY H12.out _ (adv_wrap _ _)).mono ?_); rintro e w13 ⟨rfl, H13⟩; clear H12; generalize adv (adv X 1) (p + q) = Z at H13)
        | (go_at_call 11; (with_reducible refine (stateY H13.out).mono ?_); rintro e w' ⟨rfl, hw⟩; subst w')
        | (go_at_call 7; (with_reducible refine (newS Z H13.out.up).mono ?_); rintro e w14 ⟨z, rfl, s14, v14, l14, k14⟩; have H14 : Hid (LP w w14 x y Z Z) := H13.out.grow v14.out; have nx : Hid (x ≠ z) := Nat.ne_of_lt (Nat.lt_of_lt_of_le H13.out.sx.lt k14.out); have ny : Hid (y ≠ z) := Nat.ne_of_lt (Nat.lt_of_lt_of_le H13.out.sy.lt k14.out); clear H13 v14 k14)
        | (go_at_call 11; (with_reducible refine (stateX H14.out).mono ?_); rintro e w' ⟨rfl, hw⟩; subst w')
        | (go_at_call 11; (with_reducible refine (stateY H14.out).mono ?_); rintro e w' ⟨rfl, hw⟩; subst w')
        | (go_at_call 15; (with_reducible refine (t15 s14.out).mono ?_); rintro e w15 ⟨r1, rfl, hr1, s15, v15⟩; have H15 : Hid (LP w w15 x y Z Z) := H14.out.other v15.out nx.out ny.out l14.out; clear H14 v15 s14)
        | (go_at_call 15; (with_reducible refine (bellX H15.out).mono ?_); rintro e w16 ⟨r2, rfl, hr2, H16, v16⟩; have s16 : Hid (SC w16 z (it Z 12)) := s15.out.but v16.out (Ne.symm nx.out); have be : eqF (ab r1) (ab r2) = true := bell_eq hr1.out hr2.out; clear H15)
        | (go_at_call 13; (with_reducible refine (t13 s16.out).mono ?_); rintro e w17 ⟨rfl, s17, v17⟩; have H17 : Hid (LP w w17 x y (it Z 12) Z) := H16.out.other v17.out nx.out ny.out l14.out; clear H16 v17 s16 s17)
        | (go_at_call 13; (with_reducible refine (nextX H17.out).mono ?_); rintro e w18 ⟨rfl, H18⟩; clear H17))
      go_ret
      exact ⟨by simp, H18.out.up⟩

set_option maxHeartbeats 1000000 in
theorem t4b {a b n p q : Int} (m : Int) (N : Nat) (hn : n.tmod 1000 = m) (hm : 0 < N ∧ m = -(N : Int)) (ha : 0 ≤ a ∧ a < 2 ^ 64) (hb : 0 ≤ b ∧ b < 2 ^ 64) (hN : N < 1000) (w : World) :
    Calls Try.prog 4 #[.int .u64 a, .int .u64 b, .int .i64 n, .int .u64 p, .int .u64 q] w (TU w) := by
  have HA : Hid (0 ≤ a ∧ a < 2 ^ 64) := ha
  have E : (stir (adv a 1) == stir (adv b 1)) = (a == b) := next_eq ha hb
  have hu : IntKind.u64.wrap (N : Int) = (N : Int) := by rw [IntKind.wrap_u64]; omega
  obtain ⟨hp, rfl⟩ := hm
  have hz : -(N : Int) < 0 := by omega
  have hw : IntKind.i64.wrap (-(-(N : Int))) = (N : Int) := by rw [Int.neg_neg]; exact IntWalk.i64_in _ (by omega)
  clear ha hb
  go_enter Try.func4, Try.ntmps4
  go_wp2_with (first
    | (go_at_call 9; (with_reducible refine (t9 w).mono ?_); rintro e w1 ⟨rfl, u1⟩)
    | (go_at_call 7; (with_reducible refine (newS a u1.out).mono ?_); rintro e w2 ⟨b2, rfl, s2, v2, l2, k2⟩; have u2 : Hid (Up w w2) := u1.out.trans v2.out; clear u1 v2)
    | (go_at_call 13; (with_reducible refine (t13 s2.out).mono ?_); rintro e w3 ⟨rfl, s3, v3⟩; have u3 : Hid (Up w w3) := v3.out.up u2.out l2.out; clear u2 v3 s2 s3)
    | (go_at_call 7; (with_reducible refine (newS b u3.out).mono ?_); rintro e w4 ⟨b4, rfl, s4, v4, l4, k4⟩; have u4 : Hid (Up w w4) := u3.out.trans v4.out; clear u3 v4)
    | (go_at_call 13; (with_reducible refine (t13 s4.out).mono ?_); rintro e w5 ⟨rfl, s5, v5⟩; have u5 : Hid (Up w w5) := v5.out.up u4.out l4.out; clear u4 v5 s4 s5)
    | (go_at_call 7; (with_reducible refine (newS a u5.out).mono ?_); rintro e w6 ⟨x, rfl, s6, v6, l6, k6⟩; have u6 : Hid (Up w w6) := u5.out.trans v6.out; clear u5 v6)
    | (go_at_call 7; (with_reducible refine (newS a u6.out).mono ?_); rintro e w7 ⟨y, rfl, s7, v7, l7, k7⟩; have H7 : Hid (LP w w7 x y a a) := ⟨u6.out.trans v7.out, s6.out.up v7.out, s7.out, Nat.ne_of_lt (Nat.lt_of_lt_of_le s6.out.lt k7.out), l6.out, l7.out⟩; clear u6 v7 s6 s7))
  go_loopw [38] (fun i wr => ∃ k : Nat, k ≤ N ∧ i = .int .i64 k ∧ Hid (LP w wr x y (it a k) a)) (fun i _ => N - (intOf i).toNat)
  case atStart => exact ⟨0, by omega, rfl, H7⟩
  case round =>
    clear H7
    obtain ⟨k, hk, rfl, HK⟩ := hrel
    by_cases hlt : k < N
    · have hkz : (k : Int) < (N : Int) := by omega
      go_wp2_with (go_at_call 13; (with_reducible refine (nextX HK.out).mono ?_); rintro e w8 ⟨rfl, H8⟩)
      go_roundw
      case rel => exact ⟨k + 1, by omega, by go_num, H8⟩
      case measure => simp [intOf]; omega
    · obtain rfl : k = N := by omega
      have HK2 : Hid (LP w wr x y (adv a k) a) := HK.out.cast (it_adv HA.out k) rfl
      clear HK
      go_wp2_with (first
        | (go_at_call 14; (with_reducible refine (skipY (Y' := adv a k) HK2.out _ rfl).mono ?_); rintro e w8 ⟨rfl, H8⟩; clear HK2; generalize adv a (k : Int) = X at H8)
        | (go_at_call 11; (with_reducible refine (stateX H8.out).mono ?_); rintro e w' ⟨rfl, hw⟩; subst w')
        | (go_at_call 11; (with_reducible refine (stateY H8.out).mono ?_); rintro e w' ⟨rfl, hw⟩; subst w')
        | (go_at_call 13; (with_reducible refine (nextX H8.out).mono ?_); rintro e w9 ⟨rfl, H9⟩; clear H8)
        | (go_at_call 13; (with_reducible refine (nextY H9.out).mono ?_); rintro e w10 ⟨rfl, H10⟩; clear H9)
        | (go_at_call 14; (with_reducible refine (skipX H10.out p rfl).mono ?_); rintro e w11 ⟨rfl, H11⟩; clear H10)
        | (go_at_call 14; (with_reducible refine (skipX H11.out q (adv_adv _ _ _)).mono ?_); rintro e w12 ⟨rfl, H12⟩; clear H11)
        | (go_at_call 14; (with_reducible refine (skipY H12.out _ (adv_wrap _ _)).mono ?_); rintro e w13 ⟨rfl, H13⟩; clear H12; generalize adv (adv X 1) (p + q) = Z at H13)
        | (go_at_call 11; (with_reducible refine (stateY H13.out).mono ?_); rintro e w' ⟨rfl, hw⟩; subst w')
        | (go_at_call 7; (with_reducible refine (newS Z H13.out.up).mono ?_); rintro e w14 ⟨z, rfl, s14, v14, l14, k14⟩; have H14 : Hid (LP w w14 x y Z Z) := H13.out.grow v14.out; have nx : Hid (x ≠ z) := Nat.ne_of_lt (Nat.lt_of_lt_of_le H13.out.sx.lt k14.out); have ny : Hid (y ≠ z) := Nat.ne_of_lt (Nat.lt_of_lt_of_le H13.out.sy.lt k14.out); clear H13 v14 k14)
        | (go_at_call 11; (with_reducible refine (stateX H14.out).mono ?_); rintro e w' ⟨rfl, hw⟩; subst w')
        | (go_at_call 11; (with_reducible refine (stateY H14.out).mono ?_); rintro e w' ⟨rfl, hw⟩; subst w')
        | (go_at_call 15; (with_reducible refine (t15 s14.out).mono ?_); rintro e w15 ⟨r1, rfl, hr1, s15, v15⟩; have H15 : Hid (LP w w15 x y Z Z) := H14.out.other v15.out nx.out ny.out l14.out; clear H14 v15 s14)
        | (go_at_call 15; (with_reducible refine (bellX H15.out).mono ?_); rintro e w16 ⟨r2, rfl, hr2, H16, v16⟩; have s16 : Hid (SC w16 z (it Z 12)) := s15.out.but v16.out (Ne.symm nx.out); have be : eqF (ab r1) (ab r2) = true := bell_eq hr1.out hr2.out; clear H15)
        | (go_at_call 13; (with_reducible refine (t13 s16.out).mono ?_); rintro e w17 ⟨rfl, s17, v17⟩; have H17 : Hid (LP w w17 x y (it Z 12) Z) := H16.out.other v17.out nx.out ny.out l14.out; clear H16 v17 s16 s17)
        | (go_at_call 13; (with_reducible refine (nextX H17.out).mono ?_); rintro e w18 ⟨rfl, H18⟩; clear H17))
      go_ret
      exact ⟨by simp, H18.out.up⟩

theorem t4 {a b n p q : Int} (ha : 0 ≤ a ∧ a < 2 ^ 64) (hb : 0 ≤ b ∧ b < 2 ^ 64) (w : World) : Calls Try.prog 4 #[.int .u64 a, .int .u64 b, .int .i64 n, .int .u64 p, .int .u64 q] w (TU w) := by
  have h1 : n.tmod 1000 < 1000 := Int.tmod_lt_of_pos n (by omega)
  have h2 : -1000 < n.tmod 1000 := by
    have := Int.lt_tmod_of_pos n (show (0 : Int) < 1000 by omega)
    omega
  by_cases h : n.tmod 1000 < 0
  · exact t4b _ (-(n.tmod 1000)).toNat rfl ⟨by omega, by omega⟩ ha hb (by omega) w
  · exact t4a _ (n.tmod 1000).toNat rfl (by omega) ha hb (by omega) w
end Go.Proofs.Ytcocliilapeelaa

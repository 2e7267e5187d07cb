/- Floats that are handed over in a row: finite; the step of a bearing; Steer of both sides. -/
import Derived.Test.YtjnggbpifclpcabK
import Derived.Test.YtjnggbpifclpcabTb
namespace Go.Proofs.Ytjnggbpifclpcab
open Go.ChangeShapes Go.WideShapes Go.ChangeAt Go.RowKit Go.Fl Ieee
attribute [local go_sem] run_store_float run_store_complex call20 call19 run_neg fold_eq fold_ne fold_lt fold_gt abs_eq

abbrev fe : Nat → Value := Value.float .f64
/-- The cells of a slice hold these floats. -/
def Reads (w : World) (blk off : Nat) (d : Array Nat) : Prop := ∀ j, j < d.size → w.cell? ⟨blk, off + j, none⟩ = some (fe d[j]!)
theorem Reads.lt {w : World} {blk off : Nat} {d : Array Nat} (h : Reads w blk off d) (hp : 0 < d.size) : blk < w.heap.size := by
  exact World.block_lt_of_cell? w _ (h 0 hp)
theorem Reads.up {w w' : World} {blk off : Nat} {d : Array Nat} (h : Reads w blk off d) (hu : Up w w') : Reads w' blk off d := fun j hj => by
  rw [RowKit.Below.cell hu (h.lt (by omega))]; exact h j hj
/-- A slice that holds these floats. -/
structure FV (w : World) (p : Option Addr) (n : Nat) (d : Array Nat) : Prop where
  len : d.size = n
  rd : 0 < n → ∃ b o, p = some ⟨b, o, none⟩ ∧ Reads w b o d
theorem FV.up {w w' : World} {p : Option Addr} {n : Nat} {d : Array Nat} (h : FV w p n d) (hu : Up w w') : FV w' p n d :=
  ⟨h.len, fun hp => by obtain ⟨b, o, e, r⟩ := h.rd hp; exact ⟨b, o, e, r.up hu⟩⟩
theorem FV.one (w : World) (t : TypeId) (x : Nat) : FV (w.alloc (.cells #[.float .f64 x] t)) (some ⟨w.heap.size, 0, none⟩) 1 #[x] := ⟨rfl, fun _ => ⟨_, 0, rfl, fun j hj => by
  have : j < 1 := hj
  obtain rfl : j = 0 := by omega
  exact World.cell?_alloc_at _ _ _ _ rfl⟩⟩
theorem FV.two (w : World) (t : TypeId) (x y : Nat) : FV (w.alloc (.cells #[.float .f64 x, .float .f64 y] t)) (some ⟨w.heap.size, 0, none⟩) 2 #[x, y] := ⟨rfl, fun _ => ⟨_, 0, rfl, fun j hj => by
  have : j < 2 := hj
  have : j = 0 ∨ j = 1 := by omega
  rcases this with rfl | rfl <;> exact World.cell?_alloc_at _ _ _ _ rfl⟩⟩
def finL (d : Array Nat) : Bool := allN (fun i => fin (ab d[i]!)) d.size
theorem fin_eq (x : Option Nat) : fin x = (eqF x x && !gtF (x.map abs) (ab 9218868437227405311)) := rfl
theorem t39k' {x : Nat} {b : Bool} (h : gtF ((ab x).map abs) (ab 9218868437227405311) = b) (w : World) : Calls Try.prog 39 #[.float .f64 x, .int .i64 0] w fun e w' => e = .returned (.bool b) ∧ w' = w := by
  rw [← h]; exact t39 x w
set_option maxHeartbeats 1000000 in
set_option maxRecDepth 20000 in
theorem t21 {w : World} {p : Option Addr} {n c : Nat} {d : Array Nat} (h : FV w p n d) (hn : n ≤ 1000000000000) : Calls Try.prog 21 #[.slice p n c] w (BR (finL d) w) := by
  have HS : Hid (FV w p n d) := h
  have HL : Hid (d.size = n) := h.len
  clear h
  have z0 : (n : Int) ≤ 1000000000000 := by omega
  go_enter Try.func21, Try.ntmps21
  go_wp2
  go_loopw [4, 7] (fun _ vi wr => ∃ i : Nat, i ≤ n ∧ vi = .int .i64 i ∧ w = wr ∧ Hid (allN (fun i => fin (ab d[i]!)) i = true)) (fun _ vi _ => n - (intOf vi).toNat)
  case atStart => exact ⟨0, by omega, rfl, rfl, rfl⟩
  case round =>
    obtain ⟨i, hi, rfl, hw, HA⟩ := hrel
    subst hw
    by_cases hlt : i < n
    · obtain ⟨b, o, rfl, hr⟩ := HS.out.rd (by omega)
      obtain ⟨x, hx⟩ : ∃ x, d[i]! = x := ⟨_, rfl⟩
      have c1 : w.cell? ⟨b, o + i, none⟩ = some (.float .f64 x) := by rw [← hx]; exact hr i (by rw [HL.out]; exact hlt)
      have HX : Hid (d[i]! = x) := hx
      have z1 : (i : Int) < (n : Int) := by omega
      clear hr hx
      cases he : eqF (ab x) (ab x) with
      | false =>
        have HE : Hid (finL d = false) := by
          show allN _ d.size = false
          rw [HL.out]
          exact allN_false (i := i) (by show fin (ab d[i]!) = false; rw [HX.out, fin_eq, he]; rfl) n hlt
        go_wp2
        go_ret
        exact ⟨by rw [HE.out]; rfl, rfl⟩
      | true =>
        cases hg : gtF ((ab x).map abs) (ab 9218868437227405311) with
        | true =>
          have HE : Hid (finL d = false) := by
            show allN _ d.size = false
            rw [HL.out]
            exact allN_false (i := i) (by show fin (ab d[i]!) = false; rw [HX.out, fin_eq, he, hg]; rfl) n hlt
          have HG : Hid (gtF ((ab x).map abs) (ab 9218868437227405311) = true) := hg
          clear hg
          go_wp2_with (go_at_call 39; (with_reducible refine (t39k' HG.out _).mono ?_); rintro e w' ⟨rfl, hw⟩; subst w')
          go_ret
          exact ⟨by rw [HE.out]; rfl, rfl⟩
        | false =>
          have HE : Hid (allN (fun i => fin (ab d[i]!)) (i + 1) = true) := by
            show (_ && fin (ab d[i]!)) = true
            rw [HA.out, HX.out, fin_eq, he, hg]; rfl
          have HG : Hid (gtF ((ab x).map abs) (ab 9218868437227405311) = false) := hg
          clear hg
          go_wp2_with (go_at_call 39; (with_reducible refine (t39k' HG.out _).mono ?_); rintro e w' ⟨rfl, hw⟩; subst w')
          go_roundw
          case rel => exact ⟨i + 1, by omega, by go_num, by trivial, HE⟩
          case measure => simp [intOf]; omega
    · obtain rfl : i = n := by omega
      go_wp2
      go_ret
      refine ⟨?_, rfl⟩
      rw [show finL d = true by show allN _ d.size = true; rw [HL.out]; exact HA.out]
      rfl
theorem t21k {w : World} {p : Option Addr} {n c : Nat} {d : Array Nat} {b : Bool} (h : FV w p n d) (hn : n ≤ 1000000000000) (hb : finL d = b) : Calls Try.prog 21 #[.slice p n c] w (BR b w) := by
  rw [← hb]; exact t21 h hn
theorem fin_two (x y : Nat) : finL #[x, y] = (fin (ab x) && fin (ab y)) := by
  show ((true && fin (ab x)) && fin (ab y)) = _
  rw [Bool.true_and]
theorem fin_one (x : Nat) : finL #[x] = fin (ab x) := by
  show (true && fin (ab x)) = _
  rw [Bool.true_and]
/-- The step of a bearing. -/
def stepF (s t : Option Nat) : Option Nat := bin .mul s (turnS t)
set_option maxRecDepth 20000 in
theorem t24 (x y : Nat) (w : World) : Calls Try.prog 24 #[.float .f64 x, .float .f64 y] w (FU w (stepF (ab x) (ab y))) := by
  go_enter Try.func24, Try.ntmps24
  go_wp2_with (first
    | ((with_reducible refine upon_fl (by simp) ?_); intro r n hr)
    | (go_at_call 23; (with_reducible refine (t23 _ _).mono ?_); rintro e w1 ⟨c, s, rfl, hc, hs, hu⟩))
  go_ret
  refine FU.mk ?_ (Up.trans hu (Up.drewN _ _))
  unfold stepF
  rw [← hs.out]
  exact hr.out
/-- How a wave stands at the element k. -/
def steerX (a : Option Nat) (k : Nat) : C2 := (turnC (bin .mul (ab (floatOfInt .f64 (k : Int))) a), turnS (bin .mul (ab (floatOfInt .f64 (k : Int))) a))
def steerF (s t : Option Nat) (k : Nat) : C2 := steerX (stepF s t) k
def steerL (n : Int) (s t : Option Nat) : List C2 := if n < 1 then [] else if n > 64 then [] else if fin s && fin t then (List.range n.toNat).map (steerF s t) else []
def steerE (n : Int) (s t : Option Nat) : Int := if n < 1 then 2 else if n > 64 then 3 else if fin s && fin t then 0 else 6
theorem PL.from {w w' : World} {L : List C2} {c : Int} {e : Ending} {w2 : World} (hu : Up w w') (h : PL w' L c e w2) : PL w L c e w2 := by
  obtain ⟨v, d, h1, h2, h3, h4⟩ := h
  exact ⟨v, d, h1, CRow.down h2 hu.size, hu.trans h3, h4⟩
theorem QL.from {w w' : World} {L : List C2} {c : Int} {e : Ending} {w2 : World} (hu : Up w w') (h : QL w' L c e w2) : QL w L c e w2 := by
  obtain ⟨v, d, h1, h2, h3, h4⟩ := h
  exact ⟨v, d, h1, owns_down h2 hu.size, hu.trans h3, h4⟩
set_option maxHeartbeats 2000000 in
set_option maxRecDepth 20000 in
theorem t11ok (N x y : Nat) (w : World) (h1 : 1 ≤ N) (h2 : N ≤ 64) (hf : (fin (ab x) && fin (ab y)) = true) : Calls Try.prog 11 #[.int .i64 N, .float .f64 x, .float .f64 y] w (PL w ((List.range N).map (steerF (ab x) (ab y))) 0) := by
  obtain ⟨i0, hi, hz0, hz1, hz2⟩ := info_parts info41
  have HF : Hid (finL #[x, y] = true) := by show _ = _; rw [fin_two]; exact hf
  clear hf
  go_enter Try.func11, Try.ntmps11
  go_wp2_with (first
    | (go_at_call 21; (with_reducible refine (t21k (FV.two _ _ _ _) (by omega) HF.out).mono ?_); rintro e w' ⟨rfl, hw⟩; subst w')
    | (go_at_call 24; (with_reducible refine (t24 _ _ _).mono ?_); rintro e w1 ⟨a, rfl, ha, hu⟩; have HU : Hid (Up w w1) := (Up.alloc _ _).trans hu; clear hu)
    | (refine wpList_make_full _ rfl _ _ 25 rfl w1.heap.size 26 i0 (.complex .f64 0 0) 1 Try.underlying25 hi hz0 hz1 .i64 .i64 _ _ N rfl rfl rfl rfl (by rw [hz2]; omega) (by unfold maxLen; omega) (Nat.le_refl _) ?_; intro w2 hown hgr; have HF : Hid (Fill _ w2 _ N (steerF (ab x) (ab y)) 0) := Fill.new _ hown hgr; clear hown hgr))
  go_loopw [10, 30] (fun _ i wr => ∃ k : Nat, k ≤ N ∧ i = .int .i64 k ∧ Hid (Fill w1 wr w1.heap.size N (steerF (ab x) (ab y)) k)) (fun _ i _ => N - (intOf i).toNat)
  case atStart => exact ⟨0, by omega, rfl, HF⟩
  case round =>
    clear HF
    obtain ⟨k, hk, rfl, HF⟩ := hrel
    by_cases hlt : k < N
    · have hkz : (k : Int) < (N : Int) := by omega
      go_wp2_with (first
        | ((with_reducible refine upon_fl (by simp) ?_); intro r n hr)
        | (go_at_call 23; (with_reducible refine (t23 _ _).mono ?_); rintro e w2 ⟨c, s, rfl, hc, hs, hu⟩; have HF2 : Hid (Fill w1 w2 w1.heap.size N (steerF (ab x) (ab y)) k) := HF.out.up (Up.trans (Up.drewN _ _) hu); obtain ⟨⟨x0, y0, hcell⟩, hfr⟩ := HF2.out.cell hlt; clear HF hu))
      go_roundw
      case rel =>
        refine ⟨k + 1, by omega, by go_num, HF2.out.stored hlt ?_ ?_⟩
        · show _ = turnC _
          rw [← ha.out, ← hr.out]; exact hc.out
        · show _ = turnS _
          rw [← ha.out, ← hr.out]; exact hs.out
      case measure => simp [intOf]; omega
    · obtain rfl : N = k := by omega
      go_wp2
      go_ret2
      exact PL.from HU.out (HF.out.pl rfl)
set_option maxHeartbeats 1000000 in
set_option maxRecDepth 20000 in
theorem t11 (n : Int) (x y : Nat) (w : World) : Calls Try.prog 11 #[.int .i64 n, .float .f64 x, .float .f64 y] w (PL w (steerL n (ab x) (ab y)) (steerE n (ab x) (ab y))) := by
  by_cases h1 : n < 1
  · rw [steerL, steerE, if_pos h1, if_pos h1]
    go_enter Try.func11, Try.ntmps11
    go_wp2
    go_ret2
    exact PL.none _ _
  · by_cases h2 : n > 64
    · rw [steerL, steerE, if_neg h1, if_neg h1, if_pos h2, if_pos h2]
      go_enter Try.func11, Try.ntmps11
      go_wp2
      go_ret2
      exact PL.none _ _
    · obtain ⟨N, rfl⟩ := Int.eq_ofNat_of_zero_le (show 0 ≤ n by omega)
      rw [steerL, steerE, if_neg h1, if_neg h1, if_neg h2, if_neg h2]
      cases hf : fin (ab x) && fin (ab y)
      · have HF : Hid (finL #[x, y] = false) := by show _ = _; rw [fin_two]; exact hf
        clear hf
        go_enter Try.func11, Try.ntmps11
        go_wp2_with (go_at_call 21; (with_reducible refine (t21k (FV.two _ _ _ _) (by omega) HF.out).mono ?_); rintro e w' ⟨rfl, hw⟩; subst w')
        go_ret2
        exact PL.from (Up.alloc _ _) (PL.none _ _)
      · exact t11ok N x y w (by omega) (by omega) hf
end Go.Proofs.Ytjnggbpifclpcab

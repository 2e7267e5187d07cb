/- Order. -/
import Derived.Test.YtflngnnoibkkoaaGreatJPc
import Derived.Test.YtflngnnoibkkoaaGreatJA
import Derived.Test.YtflngnnoibkkoaaGreatRows
import Derived.Test.YtflngnnoibkkoaaGreatFl
import Derived.OpenShut
import Derived.Test.YtflngnnoibkkoaaGreatM
import Derived.Test.YtflngnnoibkkoaaGreatFt
namespace Go.Proofs.YtflngnnoibkkoaaGreat.Pl
open Go.ChangeShapes Go.WideShapes Go.ChangeAt Go.RowKit Go.Fl Go.Sort Go.Shelf Go.Lib
set_option maxRecDepth 200000
set_option maxHeartbeats 8000000
attribute [local go_sem] run_store_float call34 run_neg fold_eq fold_ne fold_lt fold_gt abs_eq

theorem info3 : (Tryz.prog.info? 3).map (fun i => (i.zero, i.size, i.bytes)) = some (some (.int .i64 0), 1, 8) := by kernel_rfl
theorem made_nv (n : Nat) : (madeCells (Value.int .i64 0).cells (n * 1)).toList = (List.replicate n 0).map nv := by
  rw [Nat.mul_one]
  show (madeCells #[Value.int .i64 0] n).toList = _
  rw [toList_madeCells_one]; simp [nv]
theorem set_count (n i : Nat) (hi : i < n) : ((List.range i) ++ List.replicate (n - i) 0).set i i = (List.range (i + 1)) ++ List.replicate (n - (i + 1)) 0 := by
  rw [List.set_append_right _ _ (by simp)]
  simp only [List.length_range, Nat.sub_self, List.range_succ, List.append_assoc]
  rw [show n - i = (n - (i + 1)) + 1 by omega, List.replicate_succ]
  simp
/-- While the places are laid. -/
structure LayP (w W wr : World) (g n i : Nat) : Prop where
  row : OPl w.heap.size wr (.slice (some ⟨g, 0, none⟩) n n) ((List.range i) ++ List.replicate (n - i) 0)
  up : Up W wr
theorem lay_start {w W w1 : World} {g n : Nat} (_hg : W.heap.size = g) (hown : w1.ownsRow w.heap.size 3 1 (.slice (some ⟨g, 0, none⟩) n n) n (madeCells (Value.int .i64 0).cells (n * 1)).toList) (hgr : W.grownBy w1 none) : LayP w W w1 g n 0 := by
  refine ⟨?_, RowKit.Below.grown (Below.refl _ _) hgr (Nat.le_refl _) (fun j hj => by cases hj)⟩
  rw [made_nv] at hown
  unfold OPl OR
  simpa using hown
theorem LayP.next {w W wr : World} {g n i : Nat} (h : LayP w W wr g n i) (hi : i < n) (hg : W.heap.size = g) : LayP w W (wr.setCell ⟨g, i, none⟩ (.int .i64 i)) g n (i + 1) := by
  obtain ⟨s1, s2⟩ := OR.put h.row i i
  rw [set_count n i hi] at s1
  exact ⟨s1, s2.up h.up (by omega)⟩
/-- What Order leaves. -/
def OrdR (w : World) (P : Nat → Plt) (n : Nat) (e : Ending) (w' : World) : Prop := ∃ p c o, e = .returned (.slice p n c) ∧ Hid (InOrd P n o ∧ OPl w.heap.size w' (.slice p n c) o ∧ Up w w')
set_option maxHeartbeats 2000000 in
theorem t158 {w : World} {p : Option Addr} {n cap : Nat} {P : Nat → Plt} (hV : PV w p n cap P) : Calls Tryz.prog 158 #[.slice p n cap, .func (.func 159) #[] #[]] w (OrdR w P n) := by
  have HV : Hid (PV w p n cap P) := hV
  have few := hV.few
  have few2 : (n : Int) ≤ 1000000 := by omega
  clear hV
  obtain ⟨i0, hi, hz0, hz1, hz2⟩ := info_parts info3
  have HA : Hid (Up w ((w.alloc (.cells #[.slice p n cap] 60)).alloc (.cells #[.func (.func 159) #[] #[]] 188))) := (Up.alloc _ _).trans (Up.alloc _ _)
  have H1 : Hid (((w.alloc (.cells #[.slice p n cap] 60)).alloc (.cells #[.func (.func 159) #[] #[]] 188)).cell? ⟨w.heap.size, 0, none⟩ = some (.slice p n cap)) := cell_up (World.cell?_alloc_at _ _ _ _ rfl) (Up.alloc _ _)
  have H2 : Hid (((w.alloc (.cells #[.slice p n cap] 60)).alloc (.cells #[.func (.func 159) #[] #[]] 188)).cell? ⟨w.heap.size + 1, 0, none⟩ = some (.func (.func 159) #[] #[])) := by
    have : ((w.alloc (.cells #[.slice p n cap] 60)).alloc (.cells #[.func (.func 159) #[] #[]] 188)).cell? ⟨(w.alloc (.cells #[.slice p n cap] 60)).heap.size, 0, none⟩ = some (.func (.func 159) #[] #[]) := World.cell?_alloc_at _ _ _ _ rfl
    rwa [show (w.alloc (.cells #[.slice p n cap] 60)).heap.size = w.heap.size + 1 by simp] at this
  have H3 : Hid (((w.alloc (.cells #[.slice p n cap] 60)).alloc (.cells #[.func (.func 159) #[] #[]] 188)).heap.size = w.heap.size + 1 + 1) := by show _ = _; simp
  go_enter Tryz.func158, Tryz.ntmps158
  go_wp2_with (first
    | (refine wpList_make_full _ rfl _ _ 32 rfl w.heap.size 3 i0 (.int .i64 0) 1 Tryz.underlying32 hi hz0 hz1 .i64 .i64 _ _ n rfl rfl rfl rfl (by rw [hz2]; omega) (by unfold maxLen; omega) (by simp; omega) ?_; intro w1 hown hgr
       have HL : Hid (LayP w ((w.alloc (.cells #[.slice p n cap] 60)).alloc (.cells #[.func (.func 159) #[] #[]] 188)) w1 (w.heap.size + 1 + 1) n 0) := H3.out ▸ lay_start rfl hown hgr
       clear hown hgr))
  generalize hW : (w.alloc (.cells #[.slice p n cap] 60)).alloc (.cells #[.func (.func 159) #[] #[]] 188) = W at *
  clear hW
  generalize hgg : w.heap.size + 1 + 1 = g at *
  go_loopw [6, 12, 13, 14, 15, 16, 17, 18, 19] (fun _ vi _ _ _ _ _ _ _ wr => ∃ i : Nat, i ≤ n ∧ vi = .int .i64 i ∧ Hid (LayP w W wr g n i)) (fun _ vi _ _ _ _ _ _ _ _ => n - (intOf vi).toNat)
  case atStart => exact ⟨0, by omega, rfl, HL⟩
  case round =>
    clear HL
    obtain ⟨i, hi', rfl, HL⟩ := hrel
    rename World => wr
    by_cases hlt : i < n
    · have c0 := OR.cell HL.out.row (i := i) (by simp; omega)
      have f0 := OR.frz HL.out.row i
      generalize ((List.range i) ++ List.replicate (n - i) 0)[i]! = z0 at c0
      unfold nv at c0
      have HN : Hid (LayP w W (wr.setCell ⟨g, i, none⟩ (.int .i64 i)) g n (i + 1)) := HL.out.next hlt H3.out
      clear HL
      go_wp2
      go_roundw
      case rel => exact ⟨i + 1, by omega, by go_num, HN⟩
      case measure => simp [intOf]; omega
    · obtain rfl : i = n := by omega
      have HO : Hid (OPl w.heap.size wr (.slice (some ⟨g, 0, none⟩) i i) (List.range i)) := by
        show OPl _ _ _ _
        have := HL.out.row
        simpa using this
      have HU : Hid (Up W wr) := HL.out.up
      clear HL hlt
      rcases Nat.eq_zero_or_pos i with rfl | hpos
      · have CN : Hid (∀ W fv, Calls Tryz.prog 184 #[.slice (some ⟨g, 0, none⟩) 0 0, fv] W fun e w' => e = .returned (.tuple #[]) ∧ w' = W) := fun W fv => AnyF.slices_SortFunc_none { sortPlaces with } (some ⟨g, 0, none⟩) 0 fv W
        go_wp2_with (go_at_call 184; (with_reducible refine (CN.out _ _).mono ?_); rintro e w' ⟨rfl, hw⟩; subst w')
        go_ret
        exact ⟨_, _, [], rfl, InOrd.nil P, HO.out, HA.out.trans HU.out⟩
      · have CS : Hid (Calls Tryz.prog 184 #[.slice (some ⟨g, 0, none⟩) i i, .func (.func 185) #[] #[.pointer (some ⟨w.heap.size + 1, 0, none⟩), .pointer (some ⟨w.heap.size, 0, none⟩)]] wr fun e w' => e = .returned (.tuple #[]) ∧ ∃ o, Hid (InOrd P i o ∧ OPl w.heap.size w' (.slice (some ⟨g, 0, none⟩) i i) o ∧ ∀ w0, Up w0 wr → w0.heap.size ≤ g → Up w0 w')) :=
          t184 hpos (HV.out.up (HA.out.trans HU.out)) (fun b o hb => by
            obtain ⟨b', o', hb', hr⟩ := HV.out.rd hpos
            have hc := (hr 0 hpos).c0
            have hl := World.block_lt_of_cell? w _ hc
            rw [hb'] at hb
            simp only [Option.some.injEq, Addr.mk.injEq] at hb
            simp only at hl
            omega) (by omega) (by omega) (cell_up H2.out HU.out) (cell_up H1.out HU.out) HO.out
        go_wp2_with (go_at_call 184; (with_reducible refine CS.out.mono ?_); rintro e w' ⟨rfl, o, HX⟩)
        go_ret
        obtain ⟨h1, h2, h3⟩ := HX.out
        exact ⟨_, _, o, rfl, h1, h2, h3 w (HA.out.trans HU.out) (by omega)⟩
theorem t123 {w : World} {p : Option Addr} {n cap : Nat} {P : Nat → Plt} (hV : PV w p n cap P) : Calls Tryz.prog 123 #[.slice p n cap] w (OrdR w P n) := by
  have C : Hid (Calls Tryz.prog 158 #[.slice p n cap, .func (.func 159) #[] #[]] w (OrdR w P n)) := t158 hV
  clear hV
  go_enter Tryz.func123, Tryz.ntmps123
  go_wp2_with (go_at_call 158; (with_reducible refine C.out.mono ?_); rintro e w' ⟨p', c', o, rfl, H⟩)
  go_ret
  exact ⟨_, _, o, rfl, H⟩
end Go.Proofs.YtflngnnoibkkoaaGreat.Pl
/- Rows of plots of one's own; within; the first plot that is near. -/
namespace Go.Proofs.YtflngnnoibkkoaaGreat.Pl
open Go.ChangeShapes Go.WideShapes Go.ChangeAt Go.RowKit Go.Fl Go.Sort Go.Shelf Go.Lib
set_option maxRecDepth 200000
set_option maxHeartbeats 8000000
attribute [local go_sem] run_store_float call34 run_neg fold_eq fold_ne fold_lt fold_gt abs_eq

def pL (p : Plt) : List Value := [.float .f64 p.r, .float .f64 p.s, .float .f64 p.p, .float .f64 p.b, .float .f64 p.t]
def fl5 (D : List Plt) : List Value := D.flatMap pL
theorem fl5_at : ∀ {D : List Plt} {i k : Nat} (_ : i < D.length) (_ : k < 5), (fl5 D)[i * 5 + k]? = (pL (D.getD i Plt.zero))[k]?
  | p :: D, 0, k, _, hk => by
    unfold fl5
    rw [List.flatMap_cons, List.getElem?_append_left (by simp [pL]; omega)]
    simp
  | p :: D, i + 1, k, hi, hk => by
    unfold fl5
    rw [List.flatMap_cons, List.getElem?_append_right (by simp [pL]; omega)]
    have := fl5_at (D := D) (i := i) (k := k) (by simpa using hi) hk
    unfold fl5 at this
    rw [show (i + 1) * 5 + k - (pL p).length = i * 5 + k by simp [pL]; omega, this]
    simp
/-- A row of plots of one's own. -/
def PO (b : Nat) (w : World) (v : Value) (D : List Plt) : Prop := w.ownsRow b 64 5 v D.length (fl5 D)
theorem PO.nil (b : Nat) (w : World) : PO b w (.slice none 0 0) [] := ⟨by simp [fl5], Or.inl ⟨rfl, rfl⟩⟩
theorem PO.at {b : Nat} {w : World} {p : Option Addr} {n cap : Nat} {D : List Plt} (h : PO b w (.slice p n cap) D) {i : Nat} (hi : i < D.length) : ∃ g, p = some ⟨g, 0, none⟩ ∧ b ≤ g ∧ g < w.heap.size ∧ P5 w g (i * 5) (D.getD i Plt.zero) := by
  rcases h.2 with ⟨h0, h1⟩ | ⟨g, cap', cur, e, h1, h2, h3, h4, h5, h6⟩
  · omega
  · simp only [Value.slice.injEq] at e
    obtain ⟨rfl, rfl, rfl⟩ := e
    refine ⟨g, rfl, h1, (Array.getElem?_eq_some_iff.1 h2).1, ?_⟩
    have c : ∀ k v, k < 5 → (pL (D.getD i Plt.zero))[k]? = some v → w.cell? ⟨g, i * 5 + k, none⟩ = some v := fun k v hk hv => by
      rw [← fl5_at hi hk, ← h6, List.getElem?_take, if_pos (by omega)] at hv
      unfold World.cell?
      simp only [h2]
      rw [Array.getElem?_toList] at hv
      simpa using hv
    exact ⟨c 0 _ (by omega) rfl, c 1 _ (by omega) rfl, c 2 _ (by omega) rfl, c 3 _ (by omega) rfl, c 4 _ (by omega) rfl⟩
theorem PO.app {b : Nat} {w : World} {v : Value} {D : List Plt} {p : Plt} (h : w.ownsRow b 64 5 v (D.length + 1) (fl5 D ++ pL p)) : PO b w v (D ++ [p]) := by
  unfold PO
  unfold fl5 at *
  rw [List.flatMap_append]
  simpa using h
theorem info28 : (Tryz.prog.info? 64).map (fun i => (i.zero, i.size, i.bytes)) = some (some (.agg #[.float .f64 0, .float .f64 0, .float .f64 0, .float .f64 0, .float .f64 0]), 5, 40) := by kernel_rfl
theorem five_new (w : World) (p : Plt) (t : TypeId) : ∀ (j : Nat) (u : Value), (pL p)[j]? = some u → (w.alloc (.cells #[.float .f64 p.r, .float .f64 p.s, .float .f64 p.p, .float .f64 p.b, .float .f64 p.t] t)).cell? ((⟨w.heap.size, 0, none⟩ : Addr).add j) = some u := by
  intro j u hj
  have hl : j < 5 := by
    have := (List.getElem?_eq_some_iff.1 hj).1
    simpa [pL] using this
  rcases (show j = 0 ∨ j = 1 ∨ j = 2 ∨ j = 3 ∨ j = 4 by omega) with rfl | rfl | rfl | rfl | rfl <;>
    (simp [pL] at hj; subst hj; exact World.cell?_alloc_at _ _ _ _ rfl)
theorem five_one (p : Plt) : ∀ u ∈ pL p, u.oneCell' = true := by
  intro u hu
  simp [pL] at hu
  rcases hu with rfl | rfl | rfl | rfl | rfl <;> rfl

end Go.Proofs.YtflngnnoibkkoaaGreat.Pl
/- The leaves: what stands in for math's own functions, and the small functions that call them. -/
namespace Go.Proofs.YtflngnnoibkkoaaGreat.Pl.Gt
open Go.ChangeShapes Go.WideShapes Go.ChangeAt Go.RowKit Go.Fl
set_option maxRecDepth 200000
set_option maxHeartbeats 8000000

theorem call34 (x : Nat) (w : World) : (callFunc 34 #[.float .f64 x]).run Tryz.prog w = .ok (.value (.int .u64 x)) w := by
  rw [run_callFunc_extern Tryz.func34 (by kernel_rfl) (by kernel_rfl) (by kernel_rfl) (e := Extern.MathFloatBits.float64bits) (by kernel_rfl)]; rfl
theorem call33 (x : Int) (w : World) : (callFunc 33 #[.int .u64 x]).run Tryz.prog w = .ok (.value (.float .f64 x.toNat)) w := by
  rw [run_callFunc_extern Tryz.func33 (by kernel_rfl) (by kernel_rfl) (by kernel_rfl) (e := Extern.MathFloatBits.float64frombits) (by kernel_rfl)]; rfl
attribute [local go_sem] call34 call33 run_neg fold_eq fold_ne fold_lt fold_gt abs_eq

theorem t14 (x : Nat) (w : World) : Calls Tryz.prog 14 #[.float .f64 x] w fun e w' => e = .returned (.float .f64 (abs x)) ∧ w' = w := by
  go_enter Tryz.func14, Tryz.ntmps14
  go_wp2
  go_ret
  exact ⟨rfl, rfl⟩
theorem t51 (x : Nat) (w : World) : Calls Tryz.prog 51 #[.float .f64 x] w fun e w' => e = .returned (.bool (!eqF (ab x) (ab x))) ∧ w' = w := by
  go_enter Tryz.func51, Tryz.ntmps51
  go_wp2
  go_ret
  exact ⟨rfl, rfl⟩
theorem t52 (x : Nat) (w : World) : Calls Tryz.prog 52 #[.float .f64 x, .int .i64 0] w fun e w' => e = .returned (.bool (gtF ((ab x).map abs) (ab 9218868437227405311))) ∧ w' = w := by
  go_enter Tryz.func52, Tryz.ntmps52
  go_wp2_with (go_at_call 14; refine (t14 _ _).mono ?_; rintro e w' ⟨rfl, rfl⟩)
  go_ret
  exact ⟨by rw [← ab_abs]; rfl, rfl⟩
end Go.Proofs.YtflngnnoibkkoaaGreat.Pl.Gt
/- The leaves of the chapter: finite, alike by bits, the reference's Wrap, a stretch's seconds, the plain beat. -/
namespace Go.Proofs.YtflngnnoibkkoaaGreat.Pl.Gt
open Go.ChangeShapes Go.WideShapes Go.ChangeAt Go.RowKit Go.Fl Ieee
set_option maxRecDepth 200000
set_option maxHeartbeats 8000000
attribute [local go_sem] run_store_float call34 call33 run_neg fold_eq fold_ne fold_lt fold_gt abs_eq

/-- Of what was there nothing has turned. -/
def Up (w w' : World) : Prop := Below w.heap.size w w'
theorem Up.refl (w : World) : Up w w := Below.refl _ _
theorem Up.trans {a b c : World} (h : Up a b) (k : Up b c) : Up a c := Below.trans h (Below.mono k h.size)
theorem Up.drewN (w : World) (n : Nat) : Up w (w.drewN n) := below_drewN (Below.refl _ _) n
theorem Up.drew (w : World) : Up w w.drew := Up.drewN w 1
theorem Up.alloc (w : World) (o : Obj) : Up w (w.alloc o) := (Below.refl _ _).alloc (Nat.le_refl _) _
def FU (w : World) (v : Option Nat) (e : Ending) (w' : World) : Prop := ∃ r, e = .returned (.float .f64 r) ∧ Hid (ab r = v) ∧ Hid (Up w w')

theorem t37 (x : Nat) (w : World) : Calls Tryz.prog 37 #[.float .f64 x] w fun e w' => e = .returned (.bool (fin (ab x))) ∧ w' = w := by
  go_enter Tryz.func37, Tryz.ntmps37
  go_wp2_with (first | (go_at_call 51; refine (t51 _ _).mono ?_; rintro e w' ⟨rfl, rfl⟩) | (go_at_call 52; refine (t52 _ _).mono ?_; rintro e w' ⟨rfl, rfl⟩))
  all_goals (go_ret; go_tidy; simp_all [fin])
theorem fin_is (x : Nat) : (eqF (ab x) (ab x) && (ltF (ab x) (ab 9218868437227405311) || eqF (ab x) (ab 9218868437227405311)) && (gtF (ab x) (ab 18442240474082181119) || eqF (ab x) (ab 18442240474082181119))) = fin (ab x) := by
  cases hN : isN x with
  | true => simp [fin, ab_none hN, eqF, ord]
  | false =>
    have hA : isN (abs x) = false := by rw [isN_abs]; exact hN
    have e1 : ord (ab x) (ab 9218868437227405311) = some (compare (lin x) (lin 9218868437227405311)) := by
      rw [← order_ab]; exact order_lin hN (by decide +kernel)
    have e2 : ord (ab x) (ab 18442240474082181119) = some (compare (lin x) (lin 18442240474082181119)) := by
      rw [← order_ab]; exact order_lin hN (by decide +kernel)
    have e3 : ord ((ab x).map abs) (ab 9218868437227405311) = some (compare (lin (abs x)) (lin 9218868437227405311)) := by
      rw [← ab_abs, ← order_ab]; exact order_lin hA (by decide +kernel)
    have l1 : lin 9218868437227405311 = 9218868437227405311 := by decide +kernel
    have l2 : lin 18442240474082181119 = -9218868437227405311 := by decide +kernel
    have l3 : lin (abs x) = ((x % 2 ^ 63 : Nat) : Int) := by
      have : abs x < 2 ^ 63 := Nat.mod_lt _ (by decide)
      rw [lin_low this]; rfl
    have l4 : lin x = ((x % 2 ^ 63 : Nat) : Int) ∨ lin x = -((x % 2 ^ 63 : Nat) : Int) := by
      unfold lin sgn; split <;> simp
    unfold fin
    rw [eqF_self, hN]
    unfold ltF eqF gtF
    rw [e1, e2, e3, l1, l2, l3]
    generalize x % 2 ^ 63 = m at *
    rw [Bool.eq_iff_iff]
    rcases l4 with l4 | l4 <;> rw [l4] <;> simp only [Int.compare_eq_ite_lt, Bool.not_false, Bool.true_and, Bool.and_eq_true, Bool.or_eq_true, Bool.not_eq_true', beq_iff_eq, Option.some.injEq] <;> (repeat' split) <;> simp <;> omega
theorem t23 (x : Nat) (w : World) : Calls Tryz.prog 23 #[.float .f64 x] w fun e w' => e = .returned (.bool (fin (ab x))) ∧ w' = w := by
  go_enter Tryz.func23, Tryz.ntmps23
  go_wp2
  all_goals (go_ret; go_tidy; refine ⟨?_, rfl⟩; rw [← fin_is])
  all_goals simp_all
/-- A stretch's seconds. -/
def secF (E : Int) (r : Option Nat) : Option Nat := bin .quo (ab (floatOfInt .f64 E)) r
theorem t38 (c v r : Nat) (E R : Int) (w : World) : Calls Tryz.prog 38 #[.agg #[.float .f64 c, .float .f64 v, .float .f64 r, .int .i64 E, .int .i64 R]] w (FU w (secF E (ab r))) := by
  go_enter Tryz.func38, Tryz.ntmps38
  go_wp2_with ((with_reducible refine upon_fl (by simp) ?_); intro r n hr)
  go_ret
  exact ⟨_, rfl, hr, (Up.alloc _ _).trans (Up.drewN _ _)⟩
end Go.Proofs.YtflngnnoibkkoaaGreat.Pl.Gt
/- A point of the circle, as rational numbers: its parts' squares make 1, but for a little. -/
namespace Go.Proofs.YtflngnnoibkkoaaGreat.Pl
open Go.Fl Ieee Go.RowKit
set_option maxRecDepth 200000
set_option maxHeartbeats 8000000

theorem Fnt.ab {x : Nat} (h : Fnt x) : ab x = some x := ab_some h.num
theorem ltF_val {x y : Nat} (hx : Fnt x) (hy : Fnt y) : ltF (ab x) (ab y) = decide (val x < val y) := by
  unfold ltF
  rw [ord_val hx hy]
  by_cases h : val x < val y
  · simp [h]
  · by_cases h2 : val x = val y <;> simp [h, h2]
theorem gtF_val {x y : Nat} (hx : Fnt x) (hy : Fnt y) : gtF (ab x) (ab y) = decide (val y < val x) := by
  unfold gtF
  rw [ord_val hx hy]
  by_cases h : val x < val y
  · have : ¬ val y < val x := by grind
    simp [h, this]
  · by_cases h2 : val x = val y
    · rw [h2]; simp [h2 ▸ h]
    · have : val y < val x := by grind
      simp [h, h2, this]
theorem eqF_val {x y : Nat} (hx : Fnt x) (hy : Fnt y) : eqF (ab x) (ab y) = decide (val x = val y) := by
  unfold eqF
  rw [ord_val hx hy]
  by_cases h : val x < val y
  · have : ¬ val x = val y := by grind
    simp [h, this]
  · by_cases h2 : val x = val y <;> simp [h, h2]
theorem fin_iff {x : Nat} (h : fin (ab x) = true) : Fnt x := by
  obtain ⟨s, m, e, hr⟩ := fin_num h
  exact (read_num hr).2.1
/-! The whole part. -/
theorem write_same {s : Bool} {m : Nat} {e : Int} {y : Nat} (hB : (m : Rat) * pw e ≤ pw 1000) (h : dv s m e = val y) : val (double.write (.number s m e)) = val y := by
  have := write_mono s m e hB (y := y)
  have a := this.1 (by grind)
  have b := this.2 (by grind)
  grind
end Go.Proofs.YtflngnnoibkkoaaGreat.Pl
/- Whether a beat may be: the program's Check and the reference's. -/
namespace Go.Proofs.YtflngnnoibkkoaaGreat.Pl.Gt
open Go.ChangeShapes Go.WideShapes Go.ChangeAt Go.RowKit Go.Fl Ieee
set_option maxRecDepth 200000
set_option maxHeartbeats 8000000
attribute [local go_sem] run_store_float call34 call33 run_neg fold_eq fold_ne fold_lt fold_gt abs_eq

/-- Finite and above 0. -/
def goodF (x : Option Nat) : Bool := fin x && gtF x (ab 0)
/-- Check's answer. -/
def checkF (c v r : Option Nat) (E R : Int) : Int :=
  if goodF c = true ∧ goodF v = true ∧ goodF r = true ∧ 1 ≤ E ∧ E ≤ 16384 ∧ 1 ≤ R ∧ R ≤ 256 then (if E * R > 262144 then 3 else 0) else 80
theorem zero_fnt : Fnt 0 := by unfold Fnt; decide
theorem leq_good {x : Nat} (h : fin (ab x) = true) : (ltF (ab x) (ab 0) || eqF (ab x) (ab 0)) = !gtF (ab x) (ab 0) := by
  have hx := fin_iff h
  rw [ltF_val hx zero_fnt, eqF_val hx zero_fnt, gtF_val hx zero_fnt, val0]
  rcases (Rat.le_total : val x ≤ 0 ∨ 0 ≤ val x) with h | h
  · by_cases h0 : val x = 0
    · simp [h0]
    · have h1 : val x < 0 := Rat.lt_of_le_of_ne h h0
      have h2 : ¬ 0 < val x := by grind
      simp [h1, h2]
  · by_cases h0 : val x = 0
    · simp [h0]
    · have h1 : 0 < val x := Rat.lt_of_le_of_ne h (fun e => h0 e.symm)
      have h2 : ¬ val x < 0 := by grind
      simp [h1, h2, h0]
theorem bad_leq {x : Nat} (h : fin (ab x) = true) (h2 : (ltF (ab x) (ab 0) || eqF (ab x) (ab 0)) = true) : goodF (ab x) = false := by
  rw [leq_good h] at h2
  simp [goodF]; intro _; simpa using h2
theorem good_leq {x : Nat} (h : fin (ab x) = true) (h2 : (ltF (ab x) (ab 0) || eqF (ab x) (ab 0)) = false) : goodF (ab x) = true := by
  rw [leq_good h] at h2
  simp [goodF, h]; simpa using h2
theorem bad_fin {x : Nat} (h : fin (ab x) = false) : goodF (ab x) = false := by simp [goodF, h]
theorem bad_gt {x : Nat} (h2 : gtF (ab x) (ab 0) = false) : goodF (ab x) = false := by simp [goodF, h2]
theorem good_gt {x : Nat} (h : fin (ab x) = true) (h2 : gtF (ab x) (ab 0) = true) : goodF (ab x) = true := by simp [goodF, h, h2]
theorem check80 {c v r : Option Nat} {E R : Int} (h : goodF c = false ∨ goodF v = false ∨ goodF r = false ∨ E < 1 ∨ 16384 < E ∨ R < 1 ∨ 256 < R) : checkF c v r E R = 80 := by
  unfold checkF
  rw [if_neg]
  rintro ⟨a1, a2, a3, a4, a5, a6, a7⟩
  rcases h with h | h | h | h | h | h | h
  · rw [a1] at h; cases h
  · rw [a2] at h; cases h
  · rw [a3] at h; cases h
  all_goals omega
theorem check_in {c v r : Option Nat} {E R : Int} (h1 : goodF c = true) (h2 : goodF v = true) (h3 : goodF r = true) (h4 : 1 ≤ E) (h5 : E ≤ 16384) (h6 : 1 ≤ R) (h7 : R ≤ 256) : checkF c v r E R = if E * R > 262144 then 3 else 0 := by
  unfold checkF; rw [if_pos ⟨h1, h2, h3, h4, h5, h6, h7⟩]

theorem run_index3 (w : World) (x y z : Nat) (c : Nat) (hc : c < 3) : (Instr.index 80 (.agg #[.float .f64 x, .float .f64 y, .float .f64 z]) (.int .i64 c)).run Tryz.prog w = .ok (.float .f64 (if c = 0 then x else if c = 1 then y else z)) w := by
  rcases (show c = 0 ∨ c = 1 ∨ c = 2 by omega) with rfl | rfl | rfl <;> kernel_rfl
theorem wpList_index3 {ops : Array Oper} {rest : List Oper} {o : Oper} {a : Act} {Q : Exit → Act → World → Prop} {w : World} {x y z : Nat} (c v : Nat) (hv : (if c = 0 then x else if c = 1 then y else z) = v) (hgd : o.guard = none) (s i : Operand)
    (hop : o.op = Op.index 80 s i) (hs : a.eval s = .agg #[.float .f64 x, .float .f64 y, .float .f64 z]) (hx : a.eval i = .int .i64 c) (hc : c < 3)
    (hK : wpList Tryz.prog ops Q rest (a.put o.dst (.float .f64 v)) w) : wpList Tryz.prog ops Q (o :: rest) a w := by
  refine wpList_plain hgd fun K hK' => ?_
  unfold Oper.wp
  simp only [execOp, hop, hs, hx]
  have e := run_index3 w x y z c hc
  rw [hv] at e
  simp [e, Result.andThen]
  exact hK' _ _ hK
theorem run_index2 (w : World) (x y z t : Int) (c : Nat) (hc : c < 2) : (Instr.index 107 (.agg #[.int .i64 x, .int .i64 y, .int .i64 z, .int .i64 t]) (.int .i64 c)).run Tryz.prog w = .ok (.agg (if c = 0 then #[.int .i64 x, .int .i64 y] else #[.int .i64 z, .int .i64 t])) w := by
  rcases (show c = 0 ∨ c = 1 by omega) with rfl | rfl <;> kernel_rfl
theorem wpList_index2 {ops : Array Oper} {rest : List Oper} {o : Oper} {a : Act} {Q : Exit → Act → World → Prop} {w : World} {x y z t : Int} (c : Nat) (v : Array Value) (hv : (if c = 0 then #[Value.int .i64 x, .int .i64 y] else #[.int .i64 z, .int .i64 t]) = v) (hgd : o.guard = none) (s i : Operand)
    (hop : o.op = Op.index 107 s i) (hs : a.eval s = .agg #[.int .i64 x, .int .i64 y, .int .i64 z, .int .i64 t]) (hx : a.eval i = .int .i64 c) (hc : c < 2)
    (hK : wpList Tryz.prog ops Q rest (a.put o.dst (.agg v)) w) : wpList Tryz.prog ops Q (o :: rest) a w := by
  refine wpList_plain hgd fun K hK' => ?_
  unfold Oper.wp
  simp only [execOp, hop, hs, hx]
  have e := run_index2 w x y z t c hc
  rw [hv] at e
  simp [e, Result.andThen]
  exact hK' _ _ hK
/-- A beat's cells, as they lie in memory. -/
structure BC (w : World) (b c v r : Nat) (E R : Int) : Prop where
  c0 : w.cell? ⟨b, 0, none⟩ = some (.float .f64 c)
  c1 : w.cell? ⟨b, 1, none⟩ = some (.float .f64 v)
  c2 : w.cell? ⟨b, 2, none⟩ = some (.float .f64 r)
  c3 : w.cell? ⟨b, 3, none⟩ = some (.int .i64 E)
  c4 : w.cell? ⟨b, 4, none⟩ = some (.int .i64 R)
theorem up_cell {w w' : World} (h : Up w w') {b o : Nat} {v : Value} (hc : w.cell? ⟨b, o, none⟩ = some v) : w'.cell? ⟨b, o, none⟩ = some v := by
  have hb : b < w.heap.size := by
    unfold World.cell? at hc
    rcases Nat.lt_or_ge b w.heap.size with h | h
    · exact h
    · rw [Array.getElem?_eq_none h] at hc; simp at hc
  rw [← hc]
  unfold World.cell?
  rw [h.block _ hb]
theorem BC.up {w w' : World} {b c v r : Nat} {E R : Int} (h : BC w b c v r E R) (hu : Up w w') : BC w' b c v r E R :=
  ⟨up_cell hu h.c0, up_cell hu h.c1, up_cell hu h.c2, up_cell hu h.c3, up_cell hu h.c4⟩
theorem BC.new (w : World) (c v r : Nat) (E R : Int) : BC (w.alloc (.cells #[.float .f64 c, .float .f64 v, .float .f64 r, .int .i64 E, .int .i64 R] 24)) w.heap.size c v r E R := by
  have e := heap_alloc_last w (.cells #[.float .f64 c, .float .f64 v, .float .f64 r, .int .i64 E, .int .i64 R] 24)
  constructor <;> (unfold World.cell?; simp only [e]; rfl)
end Go.Proofs.YtflngnnoibkkoaaGreat.Pl.Gt
/- The program's Check and the reference's, walked. -/
namespace Go.Proofs.YtflngnnoibkkoaaGreat.Pl.Gt
open Go.ChangeShapes Go.WideShapes Go.ChangeAt Go.RowKit Go.Fl Ieee
set_option maxRecDepth 200000
set_option maxHeartbeats 8000000
attribute [local go_sem] run_store_float call34 call33 run_neg fold_eq fold_ne fold_lt fold_gt abs_eq

def IU (w : World) (z : Int) (e : Ending) (w' : World) : Prop := e = .returned (.int .i64 z) ∧ Hid (Up w w')
/-- How many of a beat's floats are known to be good. -/
def G3 (z : Int) (c v r : Nat) : Prop := (1 ≤ z → goodF (ab c) = true) ∧ (2 ≤ z → goodF (ab v) = true) ∧ (3 ≤ z → goodF (ab r) = true)
theorem G3.zero (c v r : Nat) : G3 0 c v r := ⟨fun h => by omega, fun h => by omega, fun h => by omega⟩
theorem G3.one {c v r : Nat} (h : goodF (ab c) = true) : G3 1 c v r := ⟨fun _ => h, fun h => by omega, fun h => by omega⟩
theorem G3.two {c v r : Nat} (g : G3 1 c v r) (h : goodF (ab v) = true) : G3 2 c v r := ⟨fun _ => g.1 (by omega), fun _ => h, fun h => by omega⟩
theorem G3.three {c v r : Nat} (g : G3 2 c v r) (h : goodF (ab r) = true) : G3 3 c v r := ⟨fun _ => g.1 (by omega), fun _ => g.2.1 (by omega), fun _ => h⟩
set_option maxHeartbeats 1000000 in
theorem t36 (c v r : Nat) (E R : Int) (w : World) : Calls Tryz.prog 36 #[.agg #[.float .f64 c, .float .f64 v, .float .f64 r, .int .i64 E, .int .i64 R]] w (IU w (checkF (ab c) (ab v) (ab r) E R)) := by
  have HB := BC.new w c v r E R
  have HU : Hid (Up w (w.alloc (.cells #[.float .f64 c, .float .f64 v, .float .f64 r, .int .i64 E, .int .i64 R] 24))) := Up.alloc _ _
  obtain ⟨b0, b1, b2, b3, b4⟩ := HB
  go_enter Tryz.func36, Tryz.ntmps36
  go_wp2
  generalize w.alloc (.cells #[.float .f64 c, .float .f64 v, .float .f64 r, .int .i64 E, .int .i64 R] 24) = w1 at *
  generalize w.heap.size = s0 at *
  go_loopw [4, 14] (fun _ vi wr => ∃ z : Int, (z = 0 ∨ z = 1 ∨ z = 2 ∨ z = 3) ∧ vi = .int .i64 z ∧ w1 = wr ∧ Hid (G3 z c v r)) (fun _ vi _ => 3 - (intOf vi).toNat)
  case atStart => exact ⟨0, by omega, rfl, rfl, G3.zero _ _ _⟩
  case round =>
    obtain ⟨z, hz, rfl, hw, HG⟩ := hrel
    subst hw
    rcases hz with rfl | rfl | rfl | rfl
    · go_wp2_with (first
        | (refine wpList_index3 0 c rfl rfl _ _ rfl rfl rfl (by omega) ?_)
        | (go_at_call 37; (with_reducible refine (t37 c _).mono ?_); rintro e w' ⟨rfl, rfl⟩))
      · have hb : goodF (ab c) = false := bad_leq (by simp_all) (by simp_all)
        go_ret
        exact ⟨by rw [check80 (Or.inl hb)]; rfl, HU⟩
      · have hb : goodF (ab c) = true := good_leq (by simp_all) (by simp_all)
        go_roundw
        case rel => exact ⟨1, by omega, rfl, by simp, G3.one hb⟩
        case measure => simp [intOf]
      · have hb : goodF (ab c) = false := bad_fin (by simp_all)
        go_ret
        exact ⟨by rw [check80 (Or.inl hb)]; rfl, HU⟩
    · go_wp2_with (first
        | (refine wpList_index3 1 v rfl rfl _ _ rfl rfl rfl (by omega) ?_)
        | (go_at_call 37; (with_reducible refine (t37 v _).mono ?_); rintro e w' ⟨rfl, rfl⟩))
      · have hb : goodF (ab v) = false := bad_leq (by simp_all) (by simp_all)
        go_ret
        exact ⟨by rw [check80 (Or.inr (Or.inl hb))]; rfl, HU⟩
      · have hb : goodF (ab v) = true := good_leq (by simp_all) (by simp_all)
        go_roundw
        case rel => exact ⟨2, by omega, rfl, by simp, G3.two HG.out hb⟩
        case measure => simp [intOf]
      · have hb : goodF (ab v) = false := bad_fin (by simp_all)
        go_ret
        exact ⟨by rw [check80 (Or.inr (Or.inl hb))]; rfl, HU⟩
    · go_wp2_with (first
        | (refine wpList_index3 2 r rfl rfl _ _ rfl rfl rfl (by omega) ?_)
        | (go_at_call 37; (with_reducible refine (t37 r _).mono ?_); rintro e w' ⟨rfl, rfl⟩))
      · have hb : goodF (ab r) = false := bad_leq (by simp_all) (by simp_all)
        go_ret
        exact ⟨by rw [check80 (Or.inr (Or.inr (Or.inl hb)))]; rfl, HU⟩
      · have hb : goodF (ab r) = true := good_leq (by simp_all) (by simp_all)
        go_roundw
        case rel => exact ⟨3, by omega, rfl, by simp, G3.three HG.out hb⟩
        case measure => simp [intOf]
      · have hb : goodF (ab r) = false := bad_fin (by simp_all)
        go_ret
        exact ⟨by rw [check80 (Or.inr (Or.inr (Or.inl hb)))]; rfl, HU⟩
    · obtain ⟨g1, g2, g3⟩ := HG.out
      have G1 : Hid (goodF (ab c) = true) := g1 (by omega)
      have G2 : Hid (goodF (ab v) = true) := g2 (by omega)
      have G3 : Hid (goodF (ab r) = true) := g3 (by omega)
      clear g1 g2 g3 HG
      go_wp2
      go_loopw [6, 32] (fun _ vi wr => ∃ z : Int, (z = 0 ∨ z = 1 ∨ z = 2) ∧ vi = .int .i64 z ∧ Hid (Up w1 wr) ∧ Hid (1 ≤ z → 1 ≤ E ∧ E ≤ 16384) ∧ Hid (2 ≤ z → 1 ≤ R ∧ R ≤ 256)) (fun _ vi _ => 2 - (intOf vi).toNat)
      case atStart => exact ⟨0, by omega, rfl, Up.refl _, fun h => by omega, fun h => by omega⟩
      case round =>
        obtain ⟨z, hz, rfl, HV, HE, HR⟩ := hrel
        rcases hz with rfl | rfl | rfl
        · go_wp2_with (first
            | (refine wpList_index2 0 #[.int .i64 E, .int .i64 16384] rfl rfl _ _ rfl rfl rfl (by omega) ?_))
          · go_ret
            exact ⟨by rw [check80 (Or.inr (Or.inr (Or.inr (Or.inr (Or.inl (by first | (simp_all; done) | (simp_all; omega)))))))]; rfl, (HU.out.trans HV.out).trans (Up.alloc _ _)⟩
          · go_roundw
            case rel => exact ⟨1, by omega, rfl, HV.out.trans (Up.alloc _ _), fun _ => ⟨by first | (simp_all; done) | (simp_all; omega), by first | (simp_all; done) | (simp_all; omega)⟩, fun h => by omega⟩
            case measure => simp [intOf]
          · go_ret
            exact ⟨by rw [check80 (Or.inr (Or.inr (Or.inr (Or.inl (by first | (simp_all; done) | (simp_all; omega))))))]; rfl, (HU.out.trans HV.out).trans (Up.alloc _ _)⟩
        · go_wp2_with (first
            | (refine wpList_index2 1 #[.int .i64 R, .int .i64 256] rfl rfl _ _ rfl rfl rfl (by omega) ?_))
          · go_ret
            exact ⟨by rw [check80 (Or.inr (Or.inr (Or.inr (Or.inr (Or.inr (Or.inr (by first | (simp_all; done) | (simp_all; omega))))))))]; rfl, (HU.out.trans HV.out).trans (Up.alloc _ _)⟩
          · go_roundw
            case rel => exact ⟨2, by omega, rfl, HV.out.trans (Up.alloc _ _), fun _ => HE.out (by omega), fun _ => ⟨by first | (simp_all; done) | (simp_all; omega), by first | (simp_all; done) | (simp_all; omega)⟩⟩
            case measure => simp [intOf]
          · go_ret
            exact ⟨by rw [check80 (Or.inr (Or.inr (Or.inr (Or.inr (Or.inr (Or.inl (by first | (simp_all; done) | (simp_all; omega))))))))]; rfl, (HU.out.trans HV.out).trans (Up.alloc _ _)⟩
        · obtain ⟨e1, e2⟩ := HE.out (by omega)
          obtain ⟨r1, r2⟩ := HR.out (by omega)
          have c3 := up_cell HV.out b3
          have c4 := up_cell HV.out b4
          have HC : Hid (checkF (ab c) (ab v) (ab r) E R = if E * R > 262144 then 3 else 0) := check_in G1.out G2.out G3.out e1 e2 r1 r2
          have m1 := Int.mul_le_mul e2 r2 (by omega) (by omega)
          have m2 := Int.mul_nonneg (show 0 ≤ E by omega) (show 0 ≤ R by omega)
          go_wp2
          · go_ret
            exact ⟨by rw [HC.out, if_pos (by simp_all)]; rfl, HU.out.trans HV.out⟩
          · go_ret
            exact ⟨by rw [HC.out, if_neg (by simp_all)]; rfl, HU.out.trans HV.out⟩
end Go.Proofs.YtflngnnoibkkoaaGreat.Pl.Gt

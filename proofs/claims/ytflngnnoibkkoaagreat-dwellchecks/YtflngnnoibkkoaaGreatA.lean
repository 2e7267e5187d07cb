/- The leaves: what stands in for math's own functions, and the small functions that call them. -/
import Derived.Test.YtflngnnoibkkoaaGreatRows
import Derived.Test.YtflngnnoibkkoaaGreatFl
import Derived.OpenShut
import Derived.Deep.WholeRow
import Derived.Laws.CopyOwn
import Derived.Deep.RegionWith
namespace Go.Proofs.YtflngnnoibkkoaaGreat
open Go.ChangeShapes Go.WideShapes Go.ChangeAt Go.RowKit Go.Fl
set_option maxRecDepth 200000
set_option maxHeartbeats 8000000

theorem call34 (x : Nat) (w : World) : (callFunc 34 #[.float .f64 x]).run Tryz.prog w = .ok (.value (.int .u64 x)) w := by
  rw [run_callFunc_extern Tryz.func34 (by kernel_rfl) (by kernel_rfl) (by kernel_rfl) (e := Extern.MathFloatBits.float64bits) (by kernel_rfl)]; rfl
theorem call33 (x : Int) (w : World) : (callFunc 33 #[.int .u64 x]).run Tryz.prog w = .ok (.value (.float .f64 x.toNat)) w := by
  rw [run_callFunc_extern Tryz.func33 (by kernel_rfl) (by kernel_rfl) (by kernel_rfl) (e := Extern.MathFloatBits.float64frombits) (by kernel_rfl)]; rfl
theorem upon128 {o : Oper} {a : Act} {next : Act → World → Prop} {Q : Exit → Act → World → Prop} {x : Nat} {w : World}
    (hk : ∀ r n, Hid (ab r = (ab x).map floor) → o.upon Tryz.prog a next Q (.ok (.value (.float .f64 r)) (w.drewN n))) :
    o.upon Tryz.prog a next Q ((callFunc 128 #[.float .f64 x]).run Tryz.prog w) := by
  rw [run_callFunc_extern Tryz.func128 (by kernel_rfl) (by kernel_rfl) (by kernel_rfl) (e := Extern.MathFloor.toIntegral "math.archFloor" .down) (by kernel_rfl)]
  obtain ⟨r, n, e, hr⟩ := run_floor (P := Tryz.prog) "math.archFloor" x w
  rw [e]
  exact hk r n hr
attribute [local go_sem] call34 call33 run_neg fold_eq fold_ne fold_lt fold_gt abs_eq

theorem t81 (w : World) : Calls Tryz.prog 81 #[] w fun e w' => e = .returned (.float .f64 9221120237041090561) ∧ w' = w := by
  go_enter Tryz.func81, Tryz.ntmps81
  go_wp2
  go_ret
  exact ⟨rfl, rfl⟩
theorem t14 (x : Nat) (w : World) : Calls Tryz.prog 14 #[.float .f64 x] w fun e w' => e = .returned (.float .f64 (abs x)) ∧ w' = w := by
  go_enter Tryz.func14, Tryz.ntmps14
  go_wp2
  go_ret
  exact ⟨rfl, rfl⟩
theorem t91 (x : Nat) (w : World) :
    Calls Tryz.prog 91 #[.float .f64 x] w (FR w ((ab x).map floor)) := by
  go_enter Tryz.func91, Tryz.ntmps91
  go_wp2_with (refine upon128 ?_; intro r n hr)
  go_ret
  exact ⟨_, _, rfl, rfl, hr⟩
theorem t51 (x : Nat) (w : World) : Calls Tryz.prog 51 #[.float .f64 x] w fun e w' => e = .returned (.bool (!eqF (ab x) (ab x))) ∧ w' = w := by
  go_enter Tryz.func51, Tryz.ntmps51
  go_wp2
  go_ret
  exact ⟨rfl, rfl⟩
theorem t52 (x : Nat) (w : World) : Calls Tryz.prog 52 #[.float .f64 x, .int .i64 0] w fun e w' => e = .returned (.bool (gtF ((ab x).map abs) (ab 9218868437227405311))) ∧ w' = w := by
  go_enter Tryz.func52, Tryz.ntmps52
  go_wp2_with (go_at_call 14; refine (t14 _ _).mono ?_; rintro e w' ⟨rfl, rfl⟩)
  go_ret
  exact ⟨by rw [← ab_abs]; rfl, rfl⟩
theorem t80 (x : Nat) (w : World) : Calls Tryz.prog 80 #[.float .f64 x] w fun e w' => e = .returned (.bool (fin (ab x))) ∧ w' = w := by
  go_enter Tryz.func80, Tryz.ntmps80
  go_wp2_with (first | (go_at_call 51; refine (t51 _ _).mono ?_; rintro e w' ⟨rfl, rfl⟩) | (go_at_call 52; refine (t52 _ _).mono ?_; rintro e w' ⟨rfl, rfl⟩))
  all_goals (go_ret; go_tidy; simp_all [fin])
def wholeF (x : Option Nat) : Option Nat := if ltF x (ab 0) then ((x.map neg).map floor).map neg else x.map floor
theorem t124 (x : Nat) (w : World) :
    Calls Tryz.prog 124 #[.float .f64 x] w (FR w (wholeF (ab x))) := by
  go_enter Tryz.func124, Tryz.ntmps124
  go_wp2_with (go_at_call 91; refine (t91 _ _).mono ?_; rintro e w' ⟨r, n, rfl, rfl, hr⟩)
  all_goals (go_ret; go_tidy; refine FR.mkN ?_; simp_all [wholeF, ab_neg, Hid])
def wrapF (x : Option Nat) : Option Nat :=
  if fin x then
    let r := bin .sub x (wholeF x)
    if gtF r (ab 4602678819172646912) || eqF r (ab 4602678819172646912) then bin .sub r (ab 4607182418800017408)
    else if ltF r (ab 13826050856027422720) then bin .add r (ab 4607182418800017408) else r
  else none
theorem t82 (x : Nat) (w : World) :
    Calls Tryz.prog 82 #[.float .f64 x] w (FR w (wrapF (ab x))) := by
  go_enter Tryz.func82, Tryz.ntmps82
  go_wp2_with (first
    | (refine upon_fl (by simp) ?_; intro r n hr)
    | (go_at_call 80; refine (t80 _ _).mono ?_; rintro e w' ⟨rfl, rfl⟩)
    | (go_at_call 81; refine (t81 _).mono ?_; rintro e w' ⟨rfl, rfl⟩)
    | (go_at_call 124; refine (t124 _ _).mono ?_; rintro e w' ⟨r, n, rfl, rfl, hr⟩))
  all_goals (go_ret; go_tidy; first | refine FR.mkN ?_ | refine FR.mk0 ?_)
  all_goals simp_all [wrapF, Hid]
  rfl
end Go.Proofs.YtflngnnoibkkoaaGreat
/- The rows, folded. -/
namespace Go.Proofs.YtflngnnoibkkoaaGreat
open Go.ChangeShapes Go.WideShapes Go.ChangeAt Go.RowKit Go.Fl
set_option maxRecDepth 200000
set_option maxHeartbeats 8000000
attribute [local go_sem] call34 call33 run_neg fold_eq fold_ne fold_lt fold_gt abs_eq

/-- To fold a row, from its last number down to its first. -/
def foldF : List Nat → Option Nat → Option Nat
  | [], _ => none
  | [c], _ => ab c
  | c :: r, z => bin .add (bin .mul (foldF r z) z) (ab c)

theorem foldF_last (l : List Nat) (z : Option Nat) (m : Nat) (h : l.length = m + 1) : foldF (l.drop m) z = ab (l.getD m 0) := by
  have : l.drop m = [l.getD m 0] := by
    rw [List.drop_eq_getElem_cons (by omega), List.drop_eq_nil_of_le (by omega)]
    simp [List.getD, List.getElem?_eq_getElem (show m < l.length by omega)]
  rw [this]; rfl
theorem foldF_step (l : List Nat) (z : Option Nat) (j : Nat) (h : j + 1 < l.length) : foldF (l.drop j) z = bin .add (bin .mul (foldF (l.drop (j + 1)) z) z) (ab (l.getD j 0)) := by
  rw [List.drop_eq_getElem_cons (by omega), List.drop_eq_getElem_cons h]
  simp [List.getD, List.getElem?_eq_getElem (show j < l.length by omega), foldF]

theorem t127 (l : List Nat) (m b off cap z : Nat) (w : World) (hl : l.length = m + 1) (hm : m < 1000)
    (hc : ∀ i, i < m + 1 → w.cell? ⟨b, off + i, none⟩ = some (.float .f64 (l.getD i 0))) :
    Calls Tryz.prog 127 #[.slice (some ⟨b, off, none⟩) (m + 1) cap, .float .f64 z] w (FR w (foldF l (ab z))) := by
  have hcm := hc m (by omega)
  have HL : Hid (l.length = m + 1) := hl
  clear hl
  go_enter Tryz.func127, Tryz.ntmps127
  go_wp2
  go_loopw [6, 7] (fun p i wr => ∃ k r n : Nat, k ≤ m ∧ i = .int .i64 ((k : Int) - 1) ∧ p = .float .f64 r ∧ wr = w.drewN n ∧ Hid (ab r = foldF (l.drop k) (ab z))) (fun _ i _ => (intOf i + 1).toNat)
  case atStart => exact ⟨m, _, 0, Nat.le_refl _, rfl, rfl, rfl, (foldF_last l _ m HL.out).symm⟩
  case round =>
    obtain ⟨k, r, n, hk, rfl, rfl, rfl, hr⟩ := hrel
    rcases Nat.eq_zero_or_pos k with rfl | hp
    · go_wp2
      go_ret
      exact FR.mkN hr.out
    · obtain ⟨j, rfl⟩ := Nat.exists_eq_add_of_le' hp
      have hcj := hc j (by omega)
      rw [show ((j + 1 : Nat) : Int) - 1 = (j : Int) by omega]
      go_wp2_with (refine upon_fl (by simp) ?_; intro r n hr)
      go_roundw
      case rel =>
        refine ⟨j, _, _, by omega, rfl, rfl, rfl, ?_⟩
        have HL := HL.out
        show _ = _
        rw [foldF_step l _ j (by omega)]
        simp_all [Hid]
      case measure => simp [intOf]

/-- 1 divided by a whole number, of an odd k turned. -/
def quotientF (k : Nat) (n : Option Nat) : Option Nat := if ((k : Int) % 2 == 1) = true then (bin .quo (ab 4607182418800017408) n).map neg else bin .quo (ab 4607182418800017408) n
/-- The product of 1 to k + 1. -/
def factorialF : Nat → Option Nat
  | 0 => ab 4607182418800017408
  | k + 1 => bin .mul (factorialF k) (ab (floatOfInt .f64 ((k : Int) + 2)))
end Go.Proofs.YtflngnnoibkkoaaGreat
/- The rows of the reference, made by append. -/
namespace Go.Proofs.YtflngnnoibkkoaaGreat
open Go.ChangeShapes Go.WideShapes Go.ChangeAt Go.RowKit Go.Fl
set_option maxRecDepth 200000
set_option maxHeartbeats 8000000
attribute [local go_sem] call34 call33 run_neg fold_eq fold_ne fold_lt fold_gt abs_eq

def sineL : List Nat := [4607182418800017408, 13818544856648471893, 4575957461383581969, 13774824197408792602, 4523617214285662004, 13716528800881525988, 4460272573143870729, 13648976655441704991, 4389130328383466826]
def cosineL : List Nat := [4607182418800017408, 13826050856027422720, 4586165620538955093, 13787419979223755799, 4537941361671905306, 13732177094651715420, 4477122120089393304, 13666517717442657437, 4407590220077447199]
theorem sines_ok : ∀ k, k < 9 → quotientF k (factorialF (2 * k + 1 - 1)) = some (sineL.getD k 0) := by decide +kernel
theorem cosines_ok : ∀ k, k < 9 → quotientF k (factorialF (2 * k - 1)) = some (cosineL.getD k 0) := by decide +kernel
theorem info22 : (Tryz.prog.info? 22).map (fun i => (i.zero, i.size, i.bytes)) = some (some (.float .f64 0), 1, 8) := by kernel_rfl

theorem sine_of {k r f : Nat} (hk : k < 9) (hf : Hid (ab f = factorialF ((2 * (k : Int) + 1).toNat - 1))) (hr : Hid (ab r = quotientF k (ab f))) : sineL.getD k 0 = r := by
  have h := hr.out
  rw [hf.out, show (2 * (k : Int) + 1).toNat - 1 = 2 * k + 1 - 1 by omega, sines_ok k hk] at h
  exact (of_ab h).symm
theorem cosine_of {k r f : Nat} (hk : k < 9) (hf : Hid (ab f = factorialF ((2 * (k : Int)).toNat - 1))) (hr : Hid (ab r = quotientF k (ab f))) : cosineL.getD k 0 = r := by
  have h := hr.out
  rw [hf.out, show (2 * (k : Int)).toNat - 1 = 2 * k - 1 by omega, cosines_ok k hk] at h
  exact (of_ab h).symm
theorem row_push (L : List Nat) (k : Nat) (hk : k < L.length) {w wr w1 : World} {v v' : Value} {r n : Nat} {c : Array Value} {t : TypeId} (hr : Hid (L.getD k 0 = r))
    (hown : wr.ownsRow w.heap.size 22 1 v k ((L.take k).map (Value.float .f64))) (hbel : Below w.heap.size w wr)
    (hown' : w1.ownsRow w.heap.size 22 1 v' (k + 1) (List.take k (L.map (Value.float .f64)) ++ [.float .f64 r])) (hg : ((wr.drewN n).alloc (.cells c t)).grownBy w1 v.ownBlock) :
    w1.ownsRow w.heap.size 22 1 v' (k + 1) ((L.take (k + 1)).map (Value.float .f64)) ∧ Below w.heap.size w w1 := by
  refine ⟨?_, ?_⟩
  · have e : (L.take (k + 1)).map (Value.float .f64) = List.take k (L.map (Value.float .f64)) ++ [.float .f64 r] := by
      rw [← hr.out, List.take_succ_eq_append_getElem hk, List.map_append, List.map_take]
      simp [List.getD, List.getElem?_eq_getElem hk]
    rw [e]; exact hown'
  · have hs := hbel.size
    exact ((below_drewN hbel n).alloc (by simpa using hs) _).grown hg (by simp; omega) (fun j hj => (hown.lt j hj).1)

end Go.Proofs.YtflngnnoibkkoaaGreat
/- The points of the circle. -/
namespace Go.Proofs.YtflngnnoibkkoaaGreat
open Go.ChangeShapes Go.WideShapes Go.ChangeAt Go.RowKit Go.Fl
set_option maxRecDepth 200000
set_option maxHeartbeats 8000000
attribute [local go_sem] run_store_float run_store_complex call34 call33 run_neg fold_eq fold_ne fold_lt fold_gt abs_eq

def cleanF (x : Option Nat) : Option Nat := if eqF x (ab 0) then ab 0 else x
theorem t85 (x : Nat) (w : World) : Calls Tryz.prog 85 #[.float .f64 x] w (FR w (cleanF (ab x))) := by
  go_enter Tryz.func85, Tryz.ntmps85
  go_wp2
  all_goals (go_ret; go_tidy; refine FR.mk0 ?_; simp_all [cleanF])
theorem t84 (x y : Nat) (w : World) : Calls Tryz.prog 84 #[.complex .f64 x y] w fun e w' => e = .returned (.complex .f64 x (neg y)) ∧ w' = w := by
  go_enter Tryz.func84, Tryz.ntmps84
  go_wp2
  go_ret
  exact ⟨rfl, rfl⟩
theorem t125 (w : World) : Calls Tryz.prog 125 #[] w fun e w' => e = .returned (.agg (sineL.map (Value.float .f64)).toArray) ∧ Below w.heap.size w w' := by
  go_enter Tryz.func125, Tryz.ntmps125
  go_wp2_with (refine wpList_build_to rfl 160 _ rfl (sineL.map (Value.float .f64)).toArray (by kernel_rfl) ?_)
  · refine upon_storeRow _ 160 (heap_alloc_last _ _) rfl ?_
    go_wp2
    exact bodyPost_ret (results_cell_row Tryz.results125 _ _ _ 160 (sineL.map (Value.float .f64)).toArray (0, 0) _ rfl (by first | exact heap_alloc_last _ _ | exact setRow_heap _ _ _ _ _ _ (heap_alloc_last _ _)) Tryz.underlying160 rfl (by kernel_rfl)) rfl ⟨rfl, by first | exact (Below.refl _ _).alloc (Nat.le_refl _) _ | exact below_setRow ((Below.refl _ _).alloc (Nat.le_refl _) _) (Nat.le_refl _) _⟩
theorem t126 (w : World) : Calls Tryz.prog 126 #[] w fun e w' => e = .returned (.agg (cosineL.map (Value.float .f64)).toArray) ∧ Below w.heap.size w w' := by
  go_enter Tryz.func126, Tryz.ntmps126
  go_wp2_with (refine wpList_build_to rfl 160 _ rfl (cosineL.map (Value.float .f64)).toArray (by kernel_rfl) ?_)
  · refine upon_storeRow _ 160 (heap_alloc_last _ _) rfl ?_
    go_wp2
    exact bodyPost_ret (results_cell_row Tryz.results126 _ _ _ 160 (cosineL.map (Value.float .f64)).toArray (0, 0) _ rfl (by first | exact heap_alloc_last _ _ | exact setRow_heap _ _ _ _ _ _ (heap_alloc_last _ _)) Tryz.underlying160 rfl (by kernel_rfl)) rfl ⟨rfl, by first | exact (Below.refl _ _).alloc (Nat.le_refl _) _ | exact below_setRow ((Below.refl _ _).alloc (Nat.le_refl _) _) (Nat.le_refl _) _⟩
theorem alloc2_one (w : World) (o1 o2 : Obj) : ((w.alloc o1).alloc o2).heap[w.heap.size]? = some o1 := by
  rw [Below.heap_alloc (w.alloc o1) o2 w.heap.size (by simp)]; exact heap_alloc_last _ _
theorem alloc2_two (w : World) (o1 o2 : Obj) (d : Array Value) : (((w.alloc o1).alloc o2).setRow w.heap.size d).heap[w.heap.size + 1]? = some o2 := by
  rw [setRow_other _ _ _ _ (by omega)]
  have := heap_alloc_last (w.alloc o1) o2
  simpa using this
theorem two_rows (w0 w : World) (c1 c2 d1 d2 : Array Value) (t : TypeId) (hb : Below w0.heap.size w0 w) :
    ∃ W, (((w.alloc (.cells c1 t)).alloc (.cells c2 t)).setRow w.heap.size d1).setRow (w.heap.size + 1) d2 = W ∧ W.heap[w.heap.size]? = some (.cells d1 t (0, 0)) ∧ W.heap[w.heap.size + 1]? = some (.cells d2 t (0, 0)) ∧ Below w0.heap.size w0 W := by
  have hs := hb.size
  refine ⟨_, rfl, ?_, ?_, ?_⟩
  · rw [setRow_other _ _ _ _ (by omega)]; exact setRow_heap _ _ _ _ _ _ (alloc2_one _ _ _)
  · exact setRow_heap _ _ _ _ _ _ (alloc2_two _ _ _ _)
  · exact below_setRow (below_setRow ((hb.alloc hs _).alloc (by simp; omega) _) hs _) (by omega) _
theorem row_cells {w : World} {g : Nat} {L : List Nat} {t : TypeId} (h : w.heap[g]? = some (.cells (L.map (Value.float .f64)).toArray t (0, 0))) : ∀ i, i < L.length → w.cell? ⟨g, 0 + i, none⟩ = some (.float .f64 (L.getD i 0)) := by
  intro i hi
  rw [cell_of_row _ _ _ _ _ _ h]
  simp [List.getD, List.getElem?_eq_getElem hi]

/-- The cosine and the sine of at most an eighth of a turn. -/
def eastC (x : Option Nat) : Option Nat := if eqF x (ab 4593671619917905920) then ab 4604544271217802189 else
  let y := bin .mul x (ab 4618760256179416344)
  foldF cosineL (bin .mul y y)
def eastS (x : Option Nat) : Option Nat := if eqF x (ab 4593671619917905920) then ab 4604544271217802189 else
  let y := bin .mul x (ab 4618760256179416344)
  bin .mul (foldF sineL (bin .mul y y)) y
theorem fold_row (L : List Nat) (m b z : Nat) (t : TypeId) (w : World) (hl : L.length = m + 1) (hm : m < 1000) (h : w.heap[b]? = some (.cells (L.map (Value.float .f64)).toArray t (0, 0))) :
    Calls Tryz.prog 127 #[.slice (some ⟨b, 0, none⟩) (m + 1) (m + 1), .float .f64 z] w (FR w (foldF L (ab z))) :=
  t127 L m b 0 (m + 1) z w hl hm (fun i hi => row_cells h i (by omega))
theorem below_two {w w1 w2 : World} {n : Nat} (h1 : Below w.heap.size (w.drewN n) w1) (h2 : Below w1.heap.size w1 w2) : Below w.heap.size w w2 :=
  ((below_drewN (Below.refl _ _) n).trans h1).trans (h2.mono (by have := h1.size; simpa using this))
set_option maxHeartbeats 1000000 in
theorem t83 (x : Nat) (w : World) : Calls Tryz.prog 83 #[.float .f64 x] w fun e w' => ∃ r s, e = .returned (.tuple #[.float .f64 r, .float .f64 s]) ∧ Hid (ab r = eastC (ab x)) ∧ Hid (ab s = eastS (ab x)) ∧ Below w.heap.size w w' := by
  go_enter Tryz.func83, Tryz.ntmps83
  go_wp2_with (first
    | ((with_reducible refine upon_fl (by simp) ?_); intro r n hr)
    | (go_at_call 125; refine (t125 _).mono ?_; rintro e w1 ⟨rfl, hb1⟩)
    | (go_at_call 126; refine (t126 _).mono ?_; rintro e w2 ⟨rfl, hb2⟩)
    | (with_reducible refine upon_storeRow _ 160 (alloc2_one _ _ _) rfl ?_)
    | (with_reducible refine upon_storeRow _ 160 (alloc2_two _ _ _ _) rfl ?_))
  · go_ret2
    go_tidy
    refine ⟨_, _, rfl, ?_, ?_, Below.refl _ _⟩ <;> simp_all [eastC, eastS, Hid]
  · obtain ⟨W, hW, hA, hB, hbel⟩ := two_rows w w2 _ _ (sineL.map (Value.float .f64)).toArray (cosineL.map (Value.float .f64)).toArray 160 (below_two hb1 hb2)
    rw [hW]
    have HA := hA; have HB := hB
    replace HA : Hid _ := hA
    replace HB : Hid _ := hB
    clear hA hB hW hb1 hb2
    go_region_with (first
      | ((with_reducible refine upon_fl (by simp) ?_); intro r n hr)
      | (go_at_call 127; refine (fold_row cosineL 8 _ _ 160 _ rfl (by omega) (by exact HB.out)).mono ?_; rintro e w' ⟨c, n, rfl, rfl, hr⟩)
      | (go_at_call 127; refine (fold_row sineL 8 _ _ 160 _ rfl (by omega) (by exact HA.out)).mono ?_; rintro e w' ⟨s, n, rfl, rfl, hr⟩))
    all_goals go_wp2
    all_goals (go_ret2; go_tidy; clear HA HB; refine ⟨_, _, rfl, ?_, ?_, below_drewN hbel _⟩ <;> simp_all [eastC, eastS, Hid])
end Go.Proofs.YtflngnnoibkkoaaGreat

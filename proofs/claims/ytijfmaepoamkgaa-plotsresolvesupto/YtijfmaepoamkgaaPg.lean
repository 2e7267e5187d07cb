/- Places sorted: slices.SortFunc by the closure. -/
import Derived.Test.YtijfmaepoamkgaaPf
import Derived.Test.YtijfmaepoamkgaaQs
import Derived.Test.YtijfmaepoamkgaaHh
import Derived.Shelf.SlSortCmp.NoneTotal
import Derived.Test.YtijfmaepoamkgaaKa
namespace Go.Proofs.Ytijfmaepoamkgaa
open Go.ChangeShapes Go.WideShapes Go.ChangeAt Go.RowKit Go.Fl Go.Sort Go.Shelf Go.Lib

def encP {n : Nat} (x : Fin n) : Value := .int .i64 (x.val : Int)
def nv (i : Nat) : Value := .int .i64 (i : Int)
def cfP (P : Nat → Plt) {n : Nat} (x y : Fin n) : Int := cmpN (kAt P x) (kAt P y)
theorem cmpN_neg (a b : Nat) : cmpN a b < 0 ↔ a < b := by unfold cmpN; repeat' split <;> omega
theorem lt_cfP {P : Nat → Plt} {n : Nat} (x y : Fin n) : ltOf (cfP P) x y = decide (kAt P x < kAt P y) := by
  unfold ltOf cfP
  rw [decide_eq_decide]
  exact cmpN_neg _ _
theorem swoP (P : Nat → Plt) (n : Nat) : SWO (ltOf (cfP P (n := n))) where
  irrefl x := by rw [lt_cfP]; simp
  trans x y z h1 h2 := by rw [lt_cfP] at *; simp at *; omega
  ntrans x y z h1 h2 := by rw [lt_cfP] at *; simp at *; omega
/-- The row that was sorted. -/
theorem owns_sorted {α : Type} [Inhabited α] {enc : α → Value} {w : World} {b g n cap m : Nat} {t : TypeId} {xs : List Value} {dk : Array α} {os : Array Obj} (h : w.ownsRow b t 1 (.slice (some ⟨g, 0, none⟩) n cap) n xs) (hs : dk.size = n) : (sortWorld enc w g 0 m dk os).ownsRow b t 1 (.slice (some ⟨g, 0, none⟩) n cap) n (dk.toList.map enc) := by
  rcases h.2 with ⟨h0, _⟩ | ⟨g', cap', cur, e, h1, h2, h3, h4, h5, h6⟩
  · cases h0
  · simp only [Value.slice.injEq, Option.some.injEq, Addr.mk.injEq] at e
    obtain ⟨⟨rfl, _⟩, _, rfl⟩ := e
    refine ⟨by simp [hs], Or.inr ⟨g, cap, putCells enc 0 dk cur, rfl, h1, ?_, h3, h4, ?_, ?_⟩⟩
    · have hl := (Array.getElem?_eq_some_iff.1 h2).1
      show (grow (putRow enc (Sort.ahead w m) g 0 dk) os).heap[g]? = _
      rw [heap_grow_old _ os (by rw [size_putRow]; exact hl)]
      simp only [putRow, mapBlock, Sort.ahead, Array.getElem?_modify, if_true, h2]
      rfl
    · simp [putCells, h5]
    · apply List.ext_getElem
      · simp [putCells, h5, hs]; omega
      · intro i h7 h8
        simp at h7 h8
        simp only [List.getElem_take, Array.getElem_toList, putCells, Array.getElem_mapIdx, List.getElem_map, Nat.sub_zero]
        rw [if_pos (by omega), getElem!_pos dk i (by omega)]
theorem gr_sorted_up {α : Type} [Inhabited α] {enc : α → Value} {w0 w : World} {g m : Nat} {dk : Array α} {os : Array Obj} (h : Up w0 w) (hg : w0.heap.size ≤ g) : Up w0 (sortWorld enc w g 0 m dk os) := by
  have hb : ∀ k, k < w0.heap.size → (sortWorld enc w g 0 m dk os).heap[k]? = w.heap[k]? := fun k hk => by
    have hkw : k < w.heap.size := Nat.lt_of_lt_of_le hk h.size
    show (grow (putRow enc (Sort.ahead w m) g 0 dk) os).heap[k]? = _
    rw [heap_grow_old _ os (by rw [size_putRow]; exact hkw)]
    simp only [putRow, mapBlock, Sort.ahead, Array.getElem?_modify, if_neg (show ¬ g = k by omega)]
  exact ⟨h.os, h.tape, h.output, by
    show _ ≤ (grow (putRow enc (Sort.ahead w m) g 0 dk) os).heap.size
    rw [size_grow, size_putRow]
    exact Nat.le_trans h.size (Nat.le_add_right _ _), fun k hk => (hb k hk).trans (h.block k hk)⟩
theorem inord_of {P : Nat → Plt} {n : Nat} (hn : n < 2 ^ 64) : InOrd P n (((List.finRange n).mergeSort fun x y => !(ltOf (cfP P)) y x).map (·.val)) := by
  have hp := List.mergeSort_perm (List.finRange n) (fun x y => !(ltOf (cfP P)) y x)
  have hr : (List.finRange n).map (·.val) = List.range n := by
    apply List.ext_getElem
    · simp
    · intro i h1 h2; simp
  constructor
  · have := hp.map (·.val)
    rwa [hr] at this
  · have hnd : (((List.finRange n).mergeSort fun x y => !(ltOf (cfP P)) y x)).Nodup := hp.nodup_iff.2 (by
      have : ((List.finRange n).map (·.val)).Nodup := by rw [hr]; exact List.nodup_range
      exact List.Pairwise.of_map _ (fun a b h e => h (by rw [e])) this)
    have hs := List.pairwise_mergeSort (le := fun x y => !(ltOf (cfP P (n := n))) y x) (fun a b c h1 h2 => by
      simp only [lt_cfP, Bool.not_eq_true', decide_eq_false_iff_not] at *
      omega) (fun a b => by
      simp only [lt_cfP, Bool.or_eq_true, Bool.not_eq_true', decide_eq_false_iff_not]
      omega) (List.finRange n)
    rw [List.pairwise_map]
    refine List.Pairwise.imp_of_mem ?_ (hs.and hnd)
    intro a b _ _ ⟨h1, h2⟩
    simp only [lt_cfP, Bool.not_eq_true', decide_eq_false_iff_not] at h1
    have : kAt P a ≠ kAt P b := fun e => h2 (Fin.ext (kAt_inj (by omega) (by omega) e))
    omega
/-- What a call leaves that hands back places. -/
def OPl (b : Nat) (w : World) (v : Value) (o : List Nat) : Prop := OR nv 3 b w v o
theorem cell_sorted {α : Type} [Inhabited α] {enc : α → Value} {w : World} {g m b k : Nat} {dk : Array α} {os : Array Obj} {v : Value} (hb : b ≠ g) (h : w.cell? ⟨b, k, none⟩ = some v) : (sortWorld enc w g 0 m dk os).cell? ⟨b, k, none⟩ = some v := by
  have hl := World.block_lt_of_cell? w _ h
  have e : (sortWorld enc w g 0 m dk os).heap[b]? = w.heap[b]? := by
    show (grow (putRow enc (Sort.ahead w m) g 0 dk) os).heap[b]? = _
    rw [heap_grow_old _ os (by rw [size_putRow]; exact hl)]
    simp only [putRow, mapBlock, Sort.ahead, Array.getElem?_modify, if_neg (Ne.symm hb)]
  unfold World.cell? at *
  simp only [e]
  exact h
/-- The sort of the places. -/
theorem t55 {w : World} {p : Option Addr} {n cap b0 g cb lb : Nat} {P : Nat → Plt} (hn : 0 < n) (hV : PV w p n cap P) (hg : ∀ b o, p = some ⟨b, o, none⟩ → b ≠ g) (hcb : cb ≠ g) (hlb : lb ≠ g) (hc : w.cell? ⟨cb, 0, none⟩ = some (.func (.func 38) #[] #[])) (hl : w.cell? ⟨lb, 0, none⟩ = some (.slice p n cap)) (hO : OPl b0 w (.slice (some ⟨g, 0, none⟩) n n) (List.range n)) :
    Calls Try.prog 55 #[.slice (some ⟨g, 0, none⟩) n n, .func (.func 56) #[] #[.pointer (some ⟨cb, 0, none⟩), .pointer (some ⟨lb, 0, none⟩)]] w fun e w' => e = .returned (.tuple #[]) ∧ ∃ o, Hid (InOrd P n o ∧ OPl b0 w' (.slice (some ⟨g, 0, none⟩) n n) o ∧ ∀ w0, Up w0 w → w0.heap.size ≤ g → Up w0 w') := by
  haveI : Inhabited (Fin n) := ⟨⟨0, hn⟩⟩
  have few := hV.few
  obtain ⟨b, o, hp, hrd⟩ := hV.rd hn
  have hsz : (List.finRange n).toArray.size = n := by simp
  have hlt := (OR.at_ hO)
  have hH : Holds (encP (n := n)) w g 0 (List.finRange n).toArray := fun j hj => by
    rw [hsz] at hj
    refine ⟨?_, by rw [Nat.zero_add]; exact OR.frz hO j⟩
    rw [Nat.zero_add, OR.cell hO (by simpa using hj), getElem!_pos _ j (by simpa using hj), getElem!_pos _ j (by simpa using hj)]
    simp [encP, nv]
  have hcmp : CmpLays1 Try.prog 56 #[.pointer (some ⟨cb, 0, none⟩), .pointer (some ⟨lb, 0, none⟩)] (encP (n := n)) (cfP P) g 0 (List.finRange n).toArray.size w := by
    intro m os dk _ x y
    have hS : S56 (sortWorld (encP (n := n)) w g 0 m dk os) cb lb p n cap b o x.val y.val (P x) (P y) := by
      have hbg := hg b o hp
      have cc : ∀ i, i < n → P5 (sortWorld (encP (n := n)) w g 0 m dk os) b (o + i * 5) (P i) := fun i hi => by
        have k := hrd i hi
        exact ⟨cell_sorted hbg k.c0, cell_sorted hbg k.c1, cell_sorted hbg k.c2, cell_sorted hbg k.c3, cell_sorted hbg k.c4⟩
      exact ⟨cell_sorted hcb hc, cell_sorted hlb hl, cc x x.isLt, cc y y.isLt⟩
    have hx := x.isLt
    have hy := y.isLt
    refine (t56 hS hp (hV.fit x hx) (hV.fit y hy) hx hy few).mono ?_
    rintro e w' ⟨rfl, hgr⟩
    refine ⟨?_, hgr.out⟩
    unfold cfP
    rw [cmp_at (hV.fit x hx) (hV.fit y hy) (by omega) (by omega)]
  have H := Any.slices_SortFunc_total sortPlaces (encP (n := n)) (fun _ => rfl) (cfP P) (swoP P n) 56 #[.pointer (some ⟨cb, 0, none⟩), .pointer (some ⟨lb, 0, none⟩)] g 0 n (List.finRange n).toArray w (fun args w => eg56 args w) hcmp hH hlt.2 (by rw [hsz]; omega) (fun x y h1 h2 => by
    rw [lt_cfP] at h1 h2
    simp at h1 h2
    exact Fin.ext (kAt_inj (P := P) (by omega) (by omega) (by omega)))
  rw [hsz] at H
  refine H.mono ?_
  rintro e w' ⟨rfl, m, os, rfl⟩
  refine ⟨rfl, _, inord_of (P := P) (n := n) (by omega), ?_, fun w0 hu hg0 => gr_sorted_up hu hg0⟩
  have hown : w.ownsRow b0 3 1 (.slice (some ⟨g, 0, none⟩) n n) n ((List.range n).map nv) := by
    have := hO
    unfold OPl OR at this
    rwa [List.length_range] at this
  have hl2 : ((List.finRange n).mergeSort fun x y => !(ltOf (cfP P)) y x).toArray.size = n := by simp
  have := owns_sorted (enc := encP (n := n)) (m := m) (os := os) hown hl2
  unfold OPl OR
  simp only [List.length_map, List.length_mergeSort, List.length_finRange, List.map_map]
  exact this
end Go.Proofs.Ytijfmaepoamkgaa
/- Order. -/
namespace Go.Proofs.Ytijfmaepoamkgaa
open Go.ChangeShapes Go.WideShapes Go.ChangeAt Go.RowKit Go.Fl Go.Sort Go.Shelf Go.Lib
attribute [local go_sem] run_store_float call53 run_neg fold_eq fold_ne fold_lt fold_gt abs_eq

theorem info3 : (Try.prog.info? 3).map (fun i => (i.zero, i.size, i.bytes)) = some (some (.int .i64 0), 1, 8) := by kernel_rfl
theorem made_nv (n : Nat) : (madeCells (Value.int .i64 0).cells (n * 1)).toList = (List.replicate n 0).map nv := by
  rw [Nat.mul_one]
  show (madeCells #[Value.int .i64 0] n).toList = _
  rw [toList_madeCells_one]; simp [nv]
theorem set_count (n i : Nat) (hi : i < n) : ((List.range i) ++ List.replicate (n - i) 0).set i i = (List.range (i + 1)) ++ List.replicate (n - (i + 1)) 0 := by
  rw [List.set_append_right _ _ (by simp)]
  simp only [List.length_range, Nat.sub_self, List.range_succ, List.append_assoc]
  rw [show n - i = (n - (i + 1)) + 1 by omega, List.replicate_succ]
  simp
/-- While the places are laid. -/
structure LayP (w W wr : World) (g n i : Nat) : Prop where
  row : OPl w.heap.size wr (.slice (some ⟨g, 0, none⟩) n n) ((List.range i) ++ List.replicate (n - i) 0)
  up : Up W wr
theorem lay_start {w W w1 : World} {g n : Nat} (_hg : W.heap.size = g) (hown : w1.ownsRow w.heap.size 3 1 (.slice (some ⟨g, 0, none⟩) n n) n (madeCells (Value.int .i64 0).cells (n * 1)).toList) (hgr : W.grownBy w1 none) : LayP w W w1 g n 0 := by
  refine ⟨?_, RowKit.Below.grown (Below.refl _ _) hgr (Nat.le_refl _) (fun j hj => by cases hj)⟩
  rw [made_nv] at hown
  unfold OPl OR
  simpa using hown
theorem LayP.next {w W wr : World} {g n i : Nat} (h : LayP w W wr g n i) (hi : i < n) (hg : W.heap.size = g) : LayP w W (wr.setCell ⟨g, i, none⟩ (.int .i64 i)) g n (i + 1) := by
  obtain ⟨s1, s2⟩ := OR.put h.row i i
  rw [set_count n i hi] at s1
  exact ⟨s1, s2.up h.up (by omega)⟩
/-- What Order leaves. -/
def OrdR (w : World) (P : Nat → Plt) (n : Nat) (e : Ending) (w' : World) : Prop := ∃ p c o, e = .returned (.slice p n c) ∧ Hid (InOrd P n o ∧ OPl w.heap.size w' (.slice p n c) o ∧ Up w w')
set_option maxRecDepth 20000 in
set_option maxHeartbeats 2000000 in
theorem t37 {w : World} {p : Option Addr} {n cap : Nat} {P : Nat → Plt} (hV : PV w p n cap P) : Calls Try.prog 37 #[.slice p n cap, .func (.func 38) #[] #[]] w (OrdR w P n) := by
  have HV : Hid (PV w p n cap P) := hV
  have few := hV.few
  have few2 : (n : Int) ≤ 1000000 := by omega
  clear hV
  obtain ⟨i0, hi, hz0, hz1, hz2⟩ := info_parts info3
  have HA : Hid (Up w ((w.alloc (.cells #[.slice p n cap] 44)).alloc (.cells #[.func (.func 38) #[] #[]] 70))) := (Up.alloc _ _).trans (Up.alloc _ _)
  have H1 : Hid (((w.alloc (.cells #[.slice p n cap] 44)).alloc (.cells #[.func (.func 38) #[] #[]] 70)).cell? ⟨w.heap.size, 0, none⟩ = some (.slice p n cap)) := cell_up (World.cell?_alloc_at _ _ _ _ rfl) (Up.alloc _ _)
  have H2 : Hid (((w.alloc (.cells #[.slice p n cap] 44)).alloc (.cells #[.func (.func 38) #[] #[]] 70)).cell? ⟨w.heap.size + 1, 0, none⟩ = some (.func (.func 38) #[] #[])) := by
    have : ((w.alloc (.cells #[.slice p n cap] 44)).alloc (.cells #[.func (.func 38) #[] #[]] 70)).cell? ⟨(w.alloc (.cells #[.slice p n cap] 44)).heap.size, 0, none⟩ = some (.func (.func 38) #[] #[]) := World.cell?_alloc_at _ _ _ _ rfl
    rwa [show (w.alloc (.cells #[.slice p n cap] 44)).heap.size = w.heap.size + 1 by simp] at this
  have H3 : Hid (((w.alloc (.cells #[.slice p n cap] 44)).alloc (.cells #[.func (.func 38) #[] #[]] 70)).heap.size = w.heap.size + 1 + 1) := by show _ = _; simp
  go_enter Try.func37, Try.ntmps37
  go_wp2_with (first
    | (refine wpList_make_full _ rfl _ _ 45 rfl w.heap.size 3 i0 (.int .i64 0) 1 Try.underlying45 hi hz0 hz1 .i64 .i64 _ _ n rfl rfl rfl rfl (by rw [hz2]; omega) (by unfold maxLen; omega) (by simp; omega) ?_; intro w1 hown hgr
       have HL : Hid (LayP w ((w.alloc (.cells #[.slice p n cap] 44)).alloc (.cells #[.func (.func 38) #[] #[]] 70)) w1 (w.heap.size + 1 + 1) n 0) := H3.out ▸ lay_start rfl hown hgr
       clear hown hgr))
  generalize hW : (w.alloc (.cells #[.slice p n cap] 44)).alloc (.cells #[.func (.func 38) #[] #[]] 70) = W at *
  clear hW
  generalize hgg : w.heap.size + 1 + 1 = g at *
  go_loopw [6, 12, 13, 14, 15, 16, 17, 18, 19] (fun _ vi _ _ _ _ _ _ _ wr => ∃ i : Nat, i ≤ n ∧ vi = .int .i64 i ∧ Hid (LayP w W wr g n i)) (fun _ vi _ _ _ _ _ _ _ _ => n - (intOf vi).toNat)
  case atStart => exact ⟨0, by omega, rfl, HL⟩
  case round =>
    clear HL
    obtain ⟨i, hi', rfl, HL⟩ := hrel
    rename World => wr
    by_cases hlt : i < n
    · have c0 := OR.cell HL.out.row (i := i) (by simp; omega)
      have f0 := OR.frz HL.out.row i
      generalize ((List.range i) ++ List.replicate (n - i) 0)[i]! = z0 at c0
      unfold nv at c0
      have HN : Hid (LayP w W (wr.setCell ⟨g, i, none⟩ (.int .i64 i)) g n (i + 1)) := HL.out.next hlt H3.out
      clear HL
      go_wp2
      go_roundw
      case rel => exact ⟨i + 1, by omega, by go_num, HN⟩
      case measure => simp [intOf]; omega
    · obtain rfl : i = n := by omega
      have HO : Hid (OPl w.heap.size wr (.slice (some ⟨g, 0, none⟩) i i) (List.range i)) := by
        show OPl _ _ _ _
        have := HL.out.row
        simpa using this
      have HU : Hid (Up W wr) := HL.out.up
      clear HL hlt
      rcases Nat.eq_zero_or_pos i with rfl | hpos
      · have CN : Hid (∀ W fv, Calls Try.prog 55 #[.slice (some ⟨g, 0, none⟩) 0 0, fv] W fun e w' => e = .returned (.tuple #[]) ∧ w' = W) := fun W fv => AnyF.slices_SortFunc_none { sortPlaces with } (some ⟨g, 0, none⟩) 0 fv W
        go_wp2_with (go_at_call 55; (with_reducible refine (CN.out _ _).mono ?_); rintro e w' ⟨rfl, hw⟩; subst w')
        go_ret
        exact ⟨_, _, [], rfl, InOrd.nil P, HO.out, HA.out.trans HU.out⟩
      · have CS : Hid (Calls Try.prog 55 #[.slice (some ⟨g, 0, none⟩) i i, .func (.func 56) #[] #[.pointer (some ⟨w.heap.size + 1, 0, none⟩), .pointer (some ⟨w.heap.size, 0, none⟩)]] wr fun e w' => e = .returned (.tuple #[]) ∧ ∃ o, Hid (InOrd P i o ∧ OPl w.heap.size w' (.slice (some ⟨g, 0, none⟩) i i) o ∧ ∀ w0, Up w0 wr → w0.heap.size ≤ g → Up w0 w')) :=
          t55 hpos (HV.out.up (HA.out.trans HU.out)) (fun b o hb => by
            obtain ⟨b', o', hb', hr⟩ := HV.out.rd hpos
            have hc := (hr 0 hpos).c0
            have hl := World.block_lt_of_cell? w _ hc
            rw [hb'] at hb
            simp only [Option.some.injEq, Addr.mk.injEq] at hb
            simp only at hl
            omega) (by omega) (by omega) (cell_up H2.out HU.out) (cell_up H1.out HU.out) HO.out
        go_wp2_with (go_at_call 55; (with_reducible refine CS.out.mono ?_); rintro e w' ⟨rfl, o, HX⟩)
        go_ret
        obtain ⟨h1, h2, h3⟩ := HX.out
        exact ⟨_, _, o, rfl, h1, h2, h3 w (HA.out.trans HU.out) (by omega)⟩
theorem t17 {w : World} {p : Option Addr} {n cap : Nat} {P : Nat → Plt} (hV : PV w p n cap P) : Calls Try.prog 17 #[.slice p n cap] w (OrdR w P n) := by
  have C : Hid (Calls Try.prog 37 #[.slice p n cap, .func (.func 38) #[] #[]] w (OrdR w P n)) := t37 hV
  clear hV
  go_enter Try.func17, Try.ntmps17
  go_wp2_with (go_at_call 37; (with_reducible refine C.out.mono ?_); rintro e w' ⟨p', c', o, rfl, H⟩)
  go_ret
  exact ⟨_, _, o, rfl, H⟩
end Go.Proofs.Ytijfmaepoamkgaa
/- Plots that are one thing, without the program: each falls to the first that was told and is near. -/
namespace Go.Proofs.Ytijfmaepoamkgaa
open Go.Fl

/-- Two floats are at most so far apart. -/
def withB (x y m : Nat) : Bool := ltF ((bin .sub (ab x) (ab y)).map abs) (ab m) || eqF ((bin .sub (ab x) (ab y)).map abs) (ab m)
/-- A plot is near one that was told. -/
def nearB (m s : Nat) (p q : Plt) : Bool := withB p.r q.r m && withB p.s q.s s
/-- One plot more. -/
def stepM (P : Nat → Plt) (m s : Nat) : List (Nat × Option Nat) → Nat → List (Nat × Option Nat)
  | [], k => [(k, ab (P k).p)]
  | (j, v) :: T, k => if nearB m s (P k) (P j) = true then (j, bin .add v (ab (P k).p)) :: T else (j, v) :: stepM P m s T k
def mg (P : Nat → Plt) (m s : Nat) (o : List Nat) : List (Nat × Option Nat) := o.foldl (stepM P m s) []
theorem stepM_none {P : Nat → Plt} {m s k : Nat} : ∀ {T : List (Nat × Option Nat)}, (∀ i, i < T.length → nearB m s (P k) (P (T[i]!).1) = false) → stepM P m s T k = T ++ [(k, ab (P k).p)]
  | [], _ => rfl
  | (j, v) :: T, h => by
    unfold stepM
    have h0 := h 0 (by simp)
    simp at h0
    rw [if_neg (by simp [h0]), stepM_none (T := T) (fun i hi => by have := h (i + 1) (by simpa using hi); simpa using this)]
    rfl
theorem stepM_some {P : Nat → Plt} {m s k : Nat} : ∀ {T : List (Nat × Option Nat)} {t : Nat}, t < T.length → nearB m s (P k) (P (T[t]!).1) = true → (∀ i, i < t → nearB m s (P k) (P (T[i]!).1) = false) → stepM P m s T k = T.set t ((T[t]!).1, bin .add (T[t]!).2 (ab (P k).p))
  | [], t, h, _, _ => by simp at h
  | (j, v) :: T, 0, _, h, _ => by
    unfold stepM
    simp at h
    rw [if_pos h]
    simp
  | (j, v) :: T, t + 1, hl, h, hb => by
    unfold stepM
    have h0 := hb 0 (by omega)
    simp at h0
    rw [if_neg (by simp [h0]), stepM_some (T := T) (t := t) (by simpa using hl) (by simpa using h) (fun i hi => by have := hb (i + 1) (by omega); simpa using this)]
    simp
/-- Powers added from the left. -/
def addAll (P : Nat → Plt) (v : Option Nat) (l : List Nat) : Option Nat := l.foldl (fun v k => bin .add v (ab (P k).p)) v
theorem fold_cons (P : Nat → Plt) (m s : Nat) (a : Nat) : ∀ (l : List Nat) (v : Option Nat) (T : List (Nat × Option Nat)), l.foldl (stepM P m s) ((a, v) :: T) = (a, addAll P v (l.filter fun k => nearB m s (P k) (P a))) :: (l.filter fun k => !nearB m s (P k) (P a)).foldl (stepM P m s) T
  | [], v, T => rfl
  | k :: l, v, T => by
    rw [List.foldl_cons]
    unfold stepM
    by_cases h : nearB m s (P k) (P a) = true
    · rw [if_pos h, fold_cons P m s a l]
      simp [h, addAll]
    · rw [if_neg h, fold_cons P m s a l]
      simp [h]
/-- The first one takes all that are near it; the others are left. -/
theorem mg_cons (P : Nat → Plt) (m s : Nat) (a : Nat) (l : List Nat) : mg P m s (a :: l) = (a, addAll P (ab (P a).p) (l.filter fun k => nearB m s (P k) (P a))) :: mg P m s (l.filter fun k => !nearB m s (P k) (P a)) := by
  unfold mg
  rw [List.foldl_cons]
  exact fold_cons P m s a l _ []
theorem stepM_len (P : Nat → Plt) (m s k : Nat) : ∀ T, (stepM P m s T k).length ≤ T.length + 1 ∧ T.length ≤ (stepM P m s T k).length
  | [] => by simp [stepM]
  | (j, v) :: T => by
    unfold stepM
    have := stepM_len P m s k T
    split
    · simp
    · simp; omega
theorem fold_len (P : Nat → Plt) (m s : Nat) : ∀ (o : List Nat) T, (o.foldl (stepM P m s) T).length ≤ T.length + o.length ∧ T.length ≤ (o.foldl (stepM P m s) T).length
  | [], T => by simp
  | k :: o, T => by
    have h := fold_len P m s o (stepM P m s T k)
    have h2 := stepM_len P m s k T
    rw [List.foldl_cons]
    simp
    omega
theorem mg_len (P : Nat → Plt) (m s : Nat) (o : List Nat) : (mg P m s o).length ≤ o.length := by
  have := (fold_len P m s o []).1
  simpa [mg] using this
theorem mg_snoc (P : Nat → Plt) (m s : Nat) (o : List Nat) (k : Nat) : mg P m s (o ++ [k]) = stepM P m s (mg P m s o) k := by
  unfold mg
  rw [List.foldl_append]
  rfl
theorem mg_some (P : Nat → Plt) (m s : Nat) (o : List Nat) (h : 0 < o.length) : 0 < (mg P m s o).length := by
  cases o with
  | nil => simp at h
  | cons a l => rw [mg_cons]; simp
/-- Who was told is among those that came. -/
theorem stepM_mem {P : Nat → Plt} {m s k : Nat} : ∀ {T : List (Nat × Option Nat)} {x}, x ∈ stepM P m s T k → x.1 = k ∨ x.1 ∈ T.map (·.1)
  | [], x, h => by simp [stepM] at h; simp [h]
  | (j, v) :: T, x, h => by
    unfold stepM at h
    split at h
    · simp at h
      rcases h with rfl | h
      · simp
      · right; simp; right; exact ⟨_, h⟩
    · simp at h
      rcases h with rfl | h
      · simp
      · rcases stepM_mem h with e | e
        · exact Or.inl e
        · right; simp at e ⊢; right; exact e
theorem mg_mem {P : Nat → Plt} {m s : Nat} {o : List Nat} : ∀ {x}, x ∈ mg P m s o → x.1 ∈ o := by
  have key : ∀ (n : Nat) (o : List Nat), o.length = n → ∀ x, x ∈ mg P m s o → x.1 ∈ o := by
    intro n
    induction n using Nat.strongRecOn with
    | ind n ih =>
      intro o ho x hx
      cases o with
      | nil => simp [mg] at hx
      | cons a l =>
        rw [mg_cons] at hx
        simp at hx
        rcases hx with rfl | hx
        · simp
        · have hl := List.length_filter_le (fun k => !nearB m s (P k) (P a)) l
          have := ih _ (by simp at ho; omega) _ rfl x hx
          have := (List.mem_filter.1 this).1
          simp [this]
  exact fun {x} hx => key _ o rfl x hx
/-- Of plots none of which is near another one just these are told. -/
theorem mg_apart {P : Nat → Plt} {m s : Nat} : ∀ {o : List Nat}, o.Pairwise (fun a k => nearB m s (P k) (P a) = false) → mg P m s o = o.map fun k => (k, ab (P k).p)
  | [], _ => rfl
  | a :: l, h => by
    rw [List.pairwise_cons] at h
    have e1 : (l.filter fun k => nearB m s (P k) (P a)) = [] := List.filter_eq_nil_iff.2 fun k hk => by simp [h.1 k hk]
    have e2 : (l.filter fun k => !nearB m s (P k) (P a)) = l := List.filter_eq_self.2 fun k hk => by simp [h.1 k hk]
    rw [mg_cons, e1, e2, mg_apart h.2]
    rfl
end Go.Proofs.Ytijfmaepoamkgaa
/- Rows of plots of one's own; within; the first plot that is near. -/
namespace Go.Proofs.Ytijfmaepoamkgaa
open Go.ChangeShapes Go.WideShapes Go.ChangeAt Go.RowKit Go.Fl Go.Sort Go.Shelf Go.Lib
attribute [local go_sem] run_store_float call53 run_neg fold_eq fold_ne fold_lt fold_gt abs_eq

def pL (p : Plt) : List Value := [.float .f64 p.r, .float .f64 p.s, .float .f64 p.p, .float .f64 p.b, .float .f64 p.t]
def fl5 (D : List Plt) : List Value := D.flatMap pL
theorem fl5_len : ∀ D : List Plt, (fl5 D).length = D.length * 5
  | [] => rfl
  | p :: D => by
    unfold fl5
    rw [List.flatMap_cons, List.length_append]
    have := fl5_len D
    unfold fl5 at this
    rw [this]
    simp [pL]
    omega
theorem fl5_at : ∀ {D : List Plt} {i k : Nat} (_ : i < D.length) (_ : k < 5), (fl5 D)[i * 5 + k]? = (pL (D.getD i Plt.zero))[k]?
  | p :: D, 0, k, _, hk => by
    unfold fl5
    rw [List.flatMap_cons, List.getElem?_append_left (by simp [pL]; omega)]
    simp
  | p :: D, i + 1, k, hi, hk => by
    unfold fl5
    rw [List.flatMap_cons, List.getElem?_append_right (by simp [pL]; omega)]
    have := fl5_at (D := D) (i := i) (k := k) (by simpa using hi) hk
    unfold fl5 at this
    rw [show (i + 1) * 5 + k - (pL p).length = i * 5 + k by simp [pL]; omega, this]
    simp
/-- A plot with another Power. -/
def Plt.pow (q : Plt) (x : Nat) : Plt := ⟨q.r, q.s, x, q.b, q.t⟩
theorem fl5_set : ∀ {D : List Plt} {i : Nat} (x : Nat) (_ : i < D.length), (fl5 D).set (i * 5 + 2) (.float .f64 x) = fl5 (D.set i ((D.getD i Plt.zero).pow x))
  | p :: D, 0, x, _ => by
    unfold fl5
    simp [pL, Plt.pow]
  | p :: D, i + 1, x, hi => by
    have := fl5_set (D := D) (i := i) x (by simpa using hi)
    unfold fl5 at *
    rw [List.flatMap_cons, List.set_append_right _ _ (by simp [pL]; omega), show (i + 1) * 5 + 2 - (pL p).length = i * 5 + 2 by simp [pL]; omega, this]
    simp
/-- A row of plots of one's own. -/
def PO (b : Nat) (w : World) (v : Value) (D : List Plt) : Prop := w.ownsRow b 28 5 v D.length (fl5 D)
theorem PO.up {b : Nat} {w w' : World} {v : Value} {D : List Plt} (h : PO b w v D) (hu : Up w w') : PO b w' v D := owns_up h hu
theorem PO.nil (b : Nat) (w : World) : PO b w (.slice none 0 0) [] := ⟨by simp [fl5], Or.inl ⟨rfl, rfl⟩⟩
theorem PO.form {b : Nat} {w : World} {v : Value} {D : List Plt} (h : PO b w v D) : ∃ p cap, v = .slice p D.length cap ∧ (0 < D.length → ∃ g, p = some ⟨g, 0, none⟩) := own_form h
theorem PO.at {b : Nat} {w : World} {p : Option Addr} {n cap : Nat} {D : List Plt} (h : PO b w (.slice p n cap) D) {i : Nat} (hi : i < D.length) : ∃ g, p = some ⟨g, 0, none⟩ ∧ b ≤ g ∧ g < w.heap.size ∧ P5 w g (i * 5) (D.getD i Plt.zero) := by
  rcases h.2 with ⟨h0, h1⟩ | ⟨g, cap', cur, e, h1, h2, h3, h4, h5, h6⟩
  · omega
  · simp only [Value.slice.injEq] at e
    obtain ⟨rfl, rfl, rfl⟩ := e
    refine ⟨g, rfl, h1, (Array.getElem?_eq_some_iff.1 h2).1, ?_⟩
    have c : ∀ k v, k < 5 → (pL (D.getD i Plt.zero))[k]? = some v → w.cell? ⟨g, i * 5 + k, none⟩ = some v := fun k v hk hv => by
      rw [← fl5_at hi hk, ← h6, List.getElem?_take, if_pos (by omega)] at hv
      unfold World.cell?
      simp only [h2]
      rw [Array.getElem?_toList] at hv
      simpa using hv
    exact ⟨c 0 _ (by omega) rfl, c 1 _ (by omega) rfl, c 2 _ (by omega) rfl, c 3 _ (by omega) rfl, c 4 _ (by omega) rfl⟩
theorem PO.len {b : Nat} {w : World} {p : Option Addr} {n cap : Nat} {D : List Plt} (h : PO b w (.slice p n cap) D) : D.length = n := by
  obtain ⟨p', cap', he, _⟩ := h.form
  simp only [Value.slice.injEq] at he
  exact he.2.1.symm
theorem PO.frz {b : Nat} {w : World} {g n cap : Nat} {D : List Plt} (h : PO b w (.slice (some ⟨g, 0, none⟩) n cap) D) (i : Nat) : w.frozen? ⟨g, i, none⟩ = false := by
  rcases h.2 with ⟨h0, h1⟩ | ⟨g', cap', cur, e, h1, h2, h3⟩
  · cases h0
  · simp only [Value.slice.injEq, Option.some.injEq, Addr.mk.injEq] at e
    obtain ⟨⟨rfl, _⟩, _⟩ := e
    unfold World.frozen?
    simp [h2]
theorem PO.pow {b : Nat} {w : World} {g n cap : Nat} {D : List Plt} (h : PO b w (.slice (some ⟨g, 0, none⟩) n cap) D) {i : Nat} (hi : i < D.length) (x : Nat) : PO b (w.setCell ⟨g, i * 5 + 2, none⟩ (.float .f64 x)) (.slice (some ⟨g, 0, none⟩) n cap) (D.set i ((D.getD i Plt.zero).pow x)) ∧ But g w (w.setCell ⟨g, i * 5 + 2, none⟩ (.float .f64 x)) := by
  have hn := h.len
  subst hn
  obtain ⟨s1, s2⟩ := World.ownsRow.stored h (i * 5 + 2) (.float .f64 x)
  refine ⟨?_, s2⟩
  unfold PO
  rw [List.length_set, ← fl5_set x hi]
  exact s1
theorem PO.app {b : Nat} {w : World} {v : Value} {D : List Plt} {p : Plt} (h : w.ownsRow b 28 5 v (D.length + 1) (fl5 D ++ pL p)) : PO b w v (D ++ [p]) := by
  unfold PO
  unfold fl5 at *
  rw [List.flatMap_append]
  simpa using h
theorem info28 : (Try.prog.info? 28).map (fun i => (i.zero, i.size, i.bytes)) = some (some (.agg #[.float .f64 0, .float .f64 0, .float .f64 0, .float .f64 0, .float .f64 0]), 5, 40) := by kernel_rfl
theorem five_new (w : World) (p : Plt) (t : TypeId) : ∀ (j : Nat) (u : Value), (pL p)[j]? = some u → (w.alloc (.cells #[.float .f64 p.r, .float .f64 p.s, .float .f64 p.p, .float .f64 p.b, .float .f64 p.t] t)).cell? ((⟨w.heap.size, 0, none⟩ : Addr).add j) = some u := by
  intro j u hj
  have hl : j < 5 := by
    have := (List.getElem?_eq_some_iff.1 hj).1
    simpa [pL] using this
  rcases (show j = 0 ∨ j = 1 ∨ j = 2 ∨ j = 3 ∨ j = 4 by omega) with rfl | rfl | rfl | rfl | rfl <;>
    (simp [pL] at hj; subst hj; exact World.cell?_alloc_at _ _ _ _ rfl)
theorem five_one (p : Plt) : ∀ u ∈ pL p, u.oneCell' = true := by
  intro u hu
  simp [pL] at hu
  rcases hu with rfl | rfl | rfl | rfl | rfl <;> rfl

theorem t44 (x y m : Nat) (w : World) : Calls Try.prog 44 #[.float .f64 x, .float .f64 y, .float .f64 m] w fun e w' => e = .returned (.bool (withB x y m)) ∧ ∃ k, w' = w.drewN k := by
  go_enter Try.func44, Try.ntmps44
  go_wp2_with (first
    | ((with_reducible refine upon_fl (by simp) ?_); intro r n hr)
    | (go_at_call 40; (with_reducible refine (t40 _ _).mono ?_); rintro e w' ⟨rfl, hw⟩; subst w'))
  go_ret
  refine ⟨?_, _, rfl⟩
  unfold withB
  rw [← hr.out, ← ab_abs]
  first | rfl | simp
end Go.Proofs.Ytijfmaepoamkgaa

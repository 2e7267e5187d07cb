/- Places sorted: slices.SortFunc by the closure. -/
import Derived.Test.YtijfmaepoamkgabPf
import Derived.Test.YtijfmaepoamkgabQs
import Derived.Test.YtijfmaepoamkgabHh
import Derived.Shelf.SlSortCmp.NoneTotal
namespace Go.Proofs.Ytijfmaepoamkgab
open Go.ChangeShapes Go.WideShapes Go.ChangeAt Go.RowKit Go.Fl Go.Sort Go.Shelf Go.Lib

def encP {n : Nat} (x : Fin n) : Value := .int .i64 (x.val : Int)
def nv (i : Nat) : Value := .int .i64 (i : Int)
def cfP (P : Nat → Plt) {n : Nat} (x y : Fin n) : Int := cmpN (kAt P x) (kAt P y)
theorem cmpN_neg (a b : Nat) : cmpN a b < 0 ↔ a < b := by unfold cmpN; repeat' split <;> omega
theorem lt_cfP {P : Nat → Plt} {n : Nat} (x y : Fin n) : ltOf (cfP P) x y = decide (kAt P x < kAt P y) := by
  unfold ltOf cfP
  rw [decide_eq_decide]
  exact cmpN_neg _ _
theorem swoP (P : Nat → Plt) (n : Nat) : SWO (ltOf (cfP P (n := n))) where
  irrefl x := by rw [lt_cfP]; simp
  trans x y z h1 h2 := by rw [lt_cfP] at *; simp at *; omega
  ntrans x y z h1 h2 := by rw [lt_cfP] at *; simp at *; omega
/-- The row that was sorted. -/
theorem owns_sorted {α : Type} [Inhabited α] {enc : α → Value} {w : World} {b g n cap m : Nat} {t : TypeId} {xs : List Value} {dk : Array α} {os : Array Obj} (h : w.ownsRow b t 1 (.slice (some ⟨g, 0, none⟩) n cap) n xs) (hs : dk.size = n) : (sortWorld enc w g 0 m dk os).ownsRow b t 1 (.slice (some ⟨g, 0, none⟩) n cap) n (dk.toList.map enc) := by
  rcases h.2 with ⟨h0, _⟩ | ⟨g', cap', cur, e, h1, h2, h3, h4, h5, h6⟩
  · cases h0
  · simp only [Value.slice.injEq, Option.some.injEq, Addr.mk.injEq] at e
    obtain ⟨⟨rfl, _⟩, _, rfl⟩ := e
    refine ⟨by simp [hs], Or.inr ⟨g, cap, putCells enc 0 dk cur, rfl, h1, ?_, h3, h4, ?_, ?_⟩⟩
    · have hl := (Array.getElem?_eq_some_iff.1 h2).1
      show (grow (putRow enc (Sort.ahead w m) g 0 dk) os).heap[g]? = _
      rw [heap_grow_old _ os (by rw [size_putRow]; exact hl)]
      simp only [putRow, mapBlock, Sort.ahead, Array.getElem?_modify, if_true, h2]
      rfl
    · simp [putCells, h5]
    · apply List.ext_getElem
      · simp [putCells, h5, hs]; omega
      · intro i h7 h8
        simp at h7 h8
        simp only [List.getElem_take, Array.getElem_toList, putCells, Array.getElem_mapIdx, List.getElem_map, Nat.sub_zero]
        rw [if_pos (by omega), getElem!_pos dk i (by omega)]
theorem gr_sorted_up {α : Type} [Inhabited α] {enc : α → Value} {w0 w : World} {g m : Nat} {dk : Array α} {os : Array Obj} (h : Up w0 w) (hg : w0.heap.size ≤ g) : Up w0 (sortWorld enc w g 0 m dk os) := by
  have hb : ∀ k, k < w0.heap.size → (sortWorld enc w g 0 m dk os).heap[k]? = w.heap[k]? := fun k hk => by
    have hkw : k < w.heap.size := Nat.lt_of_lt_of_le hk h.size
    show (grow (putRow enc (Sort.ahead w m) g 0 dk) os).heap[k]? = _
    rw [heap_grow_old _ os (by rw [size_putRow]; exact hkw)]
    simp only [putRow, mapBlock, Sort.ahead, Array.getElem?_modify, if_neg (show ¬ g = k by omega)]
  exact ⟨h.os, h.tape, h.output, by
    show _ ≤ (grow (putRow enc (Sort.ahead w m) g 0 dk) os).heap.size
    rw [size_grow, size_putRow]
    exact Nat.le_trans h.size (Nat.le_add_right _ _), fun k hk => (hb k hk).trans (h.block k hk)⟩
theorem inord_of {P : Nat → Plt} {n : Nat} (hn : n < 2 ^ 64) : InOrd P n (((List.finRange n).mergeSort fun x y => !(ltOf (cfP P)) y x).map (·.val)) := by
  have hp := List.mergeSort_perm (List.finRange n) (fun x y => !(ltOf (cfP P)) y x)
  have hr : (List.finRange n).map (·.val) = List.range n := by
    apply List.ext_getElem
    · simp
    · intro i h1 h2; simp
  constructor
  · have := hp.map (·.val)
    rwa [hr] at this
  · have hnd : (((List.finRange n).mergeSort fun x y => !(ltOf (cfP P)) y x)).Nodup := hp.nodup_iff.2 (by
      have : ((List.finRange n).map (·.val)).Nodup := by rw [hr]; exact List.nodup_range
      exact List.Pairwise.of_map _ (fun a b h e => h (by rw [e])) this)
    have hs := List.pairwise_mergeSort (le := fun x y => !(ltOf (cfP P (n := n))) y x) (fun a b c h1 h2 => by
      simp only [lt_cfP, Bool.not_eq_true', decide_eq_false_iff_not] at *
      omega) (fun a b => by
      simp only [lt_cfP, Bool.or_eq_true, Bool.not_eq_true', decide_eq_false_iff_not]
      omega) (List.finRange n)
    rw [List.pairwise_map]
    refine List.Pairwise.imp_of_mem ?_ (hs.and hnd)
    intro a b _ _ ⟨h1, h2⟩
    simp only [lt_cfP, Bool.not_eq_true', decide_eq_false_iff_not] at h1
    have : kAt P a ≠ kAt P b := fun e => h2 (Fin.ext (kAt_inj (by omega) (by omega) e))
    omega
/-- What a call leaves that hands back places. -/
def OPl (b : Nat) (w : World) (v : Value) (o : List Nat) : Prop := OR nv 3 b w v o
theorem cell_sorted {α : Type} [Inhabited α] {enc : α → Value} {w : World} {g m b k : Nat} {dk : Array α} {os : Array Obj} {v : Value} (hb : b ≠ g) (h : w.cell? ⟨b, k, none⟩ = some v) : (sortWorld enc w g 0 m dk os).cell? ⟨b, k, none⟩ = some v := by
  have hl := World.block_lt_of_cell? w _ h
  have e : (sortWorld enc w g 0 m dk os).heap[b]? = w.heap[b]? := by
    show (grow (putRow enc (Sort.ahead w m) g 0 dk) os).heap[b]? = _
    rw [heap_grow_old _ os (by rw [size_putRow]; exact hl)]
    simp only [putRow, mapBlock, Sort.ahead, Array.getElem?_modify, if_neg (Ne.symm hb)]
  unfold World.cell? at *
  simp only [e]
  exact h
/-- The sort of the places. -/
theorem t36 {w : World} {p : Option Addr} {n cap b0 g cb lb : Nat} {P : Nat → Plt} (hn : 0 < n) (hV : PV w p n cap P) (hg : ∀ b o, p = some ⟨b, o, none⟩ → b ≠ g) (hcb : cb ≠ g) (hlb : lb ≠ g) (hc : w.cell? ⟨cb, 0, none⟩ = some (.func (.func 23) #[] #[])) (hl : w.cell? ⟨lb, 0, none⟩ = some (.slice p n cap)) (hO : OPl b0 w (.slice (some ⟨g, 0, none⟩) n n) (List.range n)) :
    Calls Try.prog 36 #[.slice (some ⟨g, 0, none⟩) n n, .func (.func 37) #[] #[.pointer (some ⟨cb, 0, none⟩), .pointer (some ⟨lb, 0, none⟩)]] w fun e w' => e = .returned (.tuple #[]) ∧ ∃ o, Hid (InOrd P n o ∧ OPl b0 w' (.slice (some ⟨g, 0, none⟩) n n) o ∧ ∀ w0, Up w0 w → w0.heap.size ≤ g → Up w0 w') := by
  haveI : Inhabited (Fin n) := ⟨⟨0, hn⟩⟩
  have few := hV.few
  obtain ⟨b, o, hp, hrd⟩ := hV.rd hn
  have hsz : (List.finRange n).toArray.size = n := by simp
  have hlt := (OR.at_ hO)
  have hH : Holds (encP (n := n)) w g 0 (List.finRange n).toArray := fun j hj => by
    rw [hsz] at hj
    refine ⟨?_, by rw [Nat.zero_add]; exact OR.frz hO j⟩
    rw [Nat.zero_add, OR.cell hO (by simpa using hj), getElem!_pos _ j (by simpa using hj), getElem!_pos _ j (by simpa using hj)]
    simp [encP, nv]
  have hcmp : CmpLays1 Try.prog 37 #[.pointer (some ⟨cb, 0, none⟩), .pointer (some ⟨lb, 0, none⟩)] (encP (n := n)) (cfP P) g 0 (List.finRange n).toArray.size w := by
    intro m os dk _ x y
    have hS : S56 (sortWorld (encP (n := n)) w g 0 m dk os) cb lb p n cap b o x.val y.val (P x) (P y) := by
      have hbg := hg b o hp
      have cc : ∀ i, i < n → P5 (sortWorld (encP (n := n)) w g 0 m dk os) b (o + i * 5) (P i) := fun i hi => by
        have k := hrd i hi
        exact ⟨cell_sorted hbg k.c0, cell_sorted hbg k.c1, cell_sorted hbg k.c2, cell_sorted hbg k.c3, cell_sorted hbg k.c4⟩
      exact ⟨cell_sorted hcb hc, cell_sorted hlb hl, cc x x.isLt, cc y y.isLt⟩
    have hx := x.isLt
    have hy := y.isLt
    refine (t37 hS hp (hV.fit x hx) (hV.fit y hy) hx hy few).mono ?_
    rintro e w' ⟨rfl, hgr⟩
    refine ⟨?_, hgr.out⟩
    unfold cfP
    rw [cmp_at (hV.fit x hx) (hV.fit y hy) (by omega) (by omega)]
  have H := Any.slices_SortFunc_total sortPlaces (encP (n := n)) (fun _ => rfl) (cfP P) (swoP P n) 37 #[.pointer (some ⟨cb, 0, none⟩), .pointer (some ⟨lb, 0, none⟩)] g 0 n (List.finRange n).toArray w (fun args w => eg37 args w) hcmp hH hlt.2 (by rw [hsz]; omega) (fun x y h1 h2 => by
    rw [lt_cfP] at h1 h2
    simp at h1 h2
    exact Fin.ext (kAt_inj (P := P) (by omega) (by omega) (by omega)))
  rw [hsz] at H
  refine H.mono ?_
  rintro e w' ⟨rfl, m, os, rfl⟩
  refine ⟨rfl, _, inord_of (P := P) (n := n) (by omega), ?_, fun w0 hu hg0 => gr_sorted_up hu hg0⟩
  have hown : w.ownsRow b0 3 1 (.slice (some ⟨g, 0, none⟩) n n) n ((List.range n).map nv) := by
    have := hO
    unfold OPl OR at this
    rwa [List.length_range] at this
  have hl2 : ((List.finRange n).mergeSort fun x y => !(ltOf (cfP P)) y x).toArray.size = n := by simp
  have := owns_sorted (enc := encP (n := n)) (m := m) (os := os) hown hl2
  unfold OPl OR
  simp only [List.length_map, List.length_mergeSort, List.length_finRange, List.map_map]
  exact this
end Go.Proofs.Ytijfmaepoamkgab

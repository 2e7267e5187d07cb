/- Closed plans. -/
import Derived.Test.YtjklaemhfhakhaaKg
import Derived.Test.YtjklaemhfhakhaaKa
namespace Go.Proofs.Ytjklaemhfhakhaa
open Go.ChangeShapes Go.WideShapes Go.ChangeAt Go.RowKit

def tw (a b : Tk) (i : Nat) : Tk := if i = 0 then a else b
def tn (a : Tk) (_ : Nat) : Tk := a
theorem tl_tw (w : World) (a b : Tk) : TL (w.alloc (.cells #[.int .i64 a.e, .int .i64 a.l, .int .i64 a.r, .int .i64 b.e, .int .i64 b.l, .int .i64 b.r] 26)) (some ⟨w.heap.size, 0, none⟩) 2 2 (tw a b) := by
  have e := heap_alloc_last w (.cells #[.int .i64 a.e, .int .i64 a.l, .int .i64 a.r, .int .i64 b.e, .int .i64 b.l, .int .i64 b.r] 26)
  refine ⟨Nat.le_refl _, fun _ => ⟨_, _, rfl, fun i hi => ?_⟩⟩
  rcases (show i = 0 ∨ i = 1 by omega) with rfl | rfl
  · exact ⟨(row_cell e 0).1, (row_cell e 1).1, (row_cell e 2).1⟩
  · exact ⟨(row_cell e 3).1, (row_cell e 4).1, (row_cell e 5).1⟩
theorem tl_tn (w : World) (a : Tk) : TL (w.alloc (.cells #[.int .i64 a.e, .int .i64 a.l, .int .i64 a.r] 26)) (some ⟨w.heap.size, 0, none⟩) 1 1 (tn a) := by
  have e := heap_alloc_last w (.cells #[.int .i64 a.e, .int .i64 a.l, .int .i64 a.r] 26)
  refine ⟨Nat.le_refl _, fun _ => ⟨_, _, rfl, fun i hi => ?_⟩⟩
  obtain rfl : i = 0 := by omega
  exact ⟨(row_cell e 0).1, (row_cell e 1).1, (row_cell e 2).1⟩
theorem tl_nil (w : World) (T : Nat → Tk) : TL w none 0 0 T := ⟨Nat.le_refl _, fun h => by omega⟩
theorem may_tw {a b : Tk} (h1 : MayT a.e a.l) (h2 : MayT b.e b.l) : ∀ i, i < 2 → MayT (tw a b i).e (tw a b i).l := by
  intro i _
  unfold tw
  split
  · exact h1
  · exact h2
theorem mayI {e l : Int} (h1 : 1 ≤ l) (h2 : l ≤ e) (h3 : e ≤ 1099511627776) : MayT e l := ⟨h1, h2, h3⟩
theorem until_eq {n : Nat} {t : Int} {p : Pl} {D : List Sl} (h : (untilN n t 65536 p).1 = D) : untilN n t 65536 p = (D, (untilN n t 65536 p).2) := Prod.ext h rfl
/-- far: one task that leaves the other one no time. -/
def fU (j : Nat) : Pl := ⟨j, fun i => if i = 1 then ⟨⟨j, 1, 1, 5⟩, [], 0⟩ else (newP (tw ⟨1099511627776, 1099511627776, 0⟩ ⟨1, 1, 5⟩)).c i⟩
theorem fU_0 : newP (tw ⟨1099511627776, 1099511627776, 0⟩ ⟨1, 1, 5⟩) = fU 0 := by
  unfold fU
  show Pl.mk 0 _ = Pl.mk 0 _
  congr 1
  funext i
  by_cases q : i = 1
  · subst q; rfl
  · rw [if_neg q]; rfl
theorem fU_until {tick : Int} : ∀ (k j : Nat), ((j + k : Nat) : Int) ≤ tick → j + k ≤ 65536 → untilN 2 tick k (fU j) = (slN (fun i => ⟨1, (j + i : Nat), (j + i + 1 : Nat), false⟩) k, fU (j + k)) := by
  intro k j ht hk
  refine until_row (P := fU) (F := fun i => ⟨1, (i : Nat), (i + 1 : Nat), false⟩) k j fun i h1 h2 => ?_
  have e0 : (fU i).J 0 = ⟨0, 0, 1099511627776, 1099511627776, 0⟩ := by
    show Jb.mk _ _ _ _ _ = _
    rfl
  have e1 : (fU i).J 1 = ⟨1, i, i + 1, 1, 5⟩ := by
    show Jb.mk _ _ _ _ _ = _
    rfl
  have hn : (fU i).now = i := rfl
  have ha : ahB ((fU i).J 1) ((fU i).J 0) = true := by
    rw [ahB_iff, e0, e1]
    left
    show (i : Int) + 1 < 1099511627776
    omega
  refine ⟨by rw [hn]; omega, 1, i, (i + 1 : Nat), ?_, by omega, ?_, ?_, ?_⟩
  · have r0 : runN (fU i).J (fU i).now 1 = ((fU i).J 0, (i : Int)) := by
      rw [one_runs (by rw [e0, hn]; show max 0 (i : Int) < farT; unfold farT; omega), e0, hn]
      show (_, max 0 (i : Int)) = _
      rw [show max 0 (i : Int) = i by omega]
    rw [runN, r0]
    have hm : max ((fU i).J 1).frm (fU i).now = i := by
      rw [e1, hn]
      show max (i : Int) i = i
      omega
    rw [if_pos (Or.inr ⟨hm, ha⟩), hm]
  · have h3 : ahB ((fU i).J 0) ((fU i).J 1) = false := ah_asymm ha
    show min (if ahB ((fU i).J 1) ((fU i).J 1) = true then _ else if ahB ((fU i).J 0) ((fU i).J 1) = true then _ else _) tick = _
    rw [ah_irrefl, h3, e1]
    show min ((i : Int) + 1) tick = _
    omega
  · rw [e1]
    show (⟨1, _, _, false⟩ : Sl) = ⟨_, _, _, decide ((i : Int) + 1 < _)⟩
    rw [show decide ((i : Int) + 1 < ((i + 1 : Nat) : Int)) = false by simp]
    rfl
  · show (⟨_, upd (fU i).c 1 (((fU i).c 1).work (((i + 1 : Nat) : Int) - i))⟩ : Pl) = _
    have e2 : ((i + 1 : Nat) : Int) - i = 1 := by omega
    have e3 : ((fU i).c 1).work 1 = ⟨⟨(i + 1 : Nat), 1, 1, 5⟩, [], 0⟩ := by
      show (if (0 : Int) + 1 < 1 then _ else (⟨⟨(i : Int) + 1, 1, 1, 5⟩, [], 0⟩ : Crs)) = _
      rw [if_neg (by omega)]
      rfl
    rw [e2, e3]
    unfold fU upd
    congr 1
    funext x
    by_cases q : x = 1
    · rw [if_pos q, if_pos q]
    · rw [if_neg q, if_neg q]
      show (if x = 1 then _ else _) = _
      rw [if_neg q]
/-- far: one task with much time. -/
def fW (j : Nat) : Pl := ⟨if j = 0 then 0 else (j - 1 : Nat) * 1099511627776 + 1, fun i => if i = 0 then ⟨⟨j * 1099511627776, 1099511627776, 1, 0⟩, [], 0⟩ else (newP (tn ⟨1099511627776, 1, 0⟩)).c i⟩
theorem fW_0 : newP (tn ⟨1099511627776, 1, 0⟩) = fW 0 := by
  unfold fW
  show Pl.mk 0 _ = Pl.mk 0 _
  congr 1
  funext i
  by_cases q : i = 0
  · subst q; rfl
  · rw [if_neg q]; rfl
theorem fW_now (j : Nat) : (fW j).now ≤ j * 1099511627776 ∧ (0 : Int) ≤ (fW j).now := by
  show (if j = 0 then (0 : Int) else (j - 1 : Nat) * 1099511627776 + 1) ≤ j * 1099511627776 ∧ (0 : Int) ≤ if j = 0 then (0 : Int) else (j - 1 : Nat) * 1099511627776 + 1
  split <;> omega
theorem fW_until {tick : Int} (hT : tick ≤ 1152921504606846976) : ∀ (k j : Nat), ((j + k : Nat) : Int) * 1099511627776 ≤ tick → untilN 1 tick k (fW j) = (slN (fun i => ⟨0, (j + i : Nat) * 1099511627776, (j + i : Nat) * 1099511627776 + 1, false⟩) k, fW (j + k)) := by
  intro k j ht
  refine until_row (P := fW) (F := fun i => ⟨0, (i : Nat) * 1099511627776, (i : Nat) * 1099511627776 + 1, false⟩) k j fun i h1 h2 => ?_
  have e0 : (fW i).J 0 = ⟨0, i * 1099511627776, i * 1099511627776 + 1099511627776, 1 - 0, 0⟩ := rfl
  obtain ⟨n1, n2⟩ := fW_now i
  have hmax : max ((fW i).J 0).frm (fW i).now = i * 1099511627776 := by
    rw [e0]
    show max ((i : Int) * 1099511627776) _ = _
    omega
  refine ⟨by omega, 0, i * 1099511627776, i * 1099511627776 + 1, ?_, by omega, ?_, ?_, ?_⟩
  · rw [one_runs (by rw [hmax]; unfold farT; omega), hmax]
  · rw [one_ends, e0]
    show min ((i : Int) * 1099511627776 + (1 - 0)) tick = _
    omega
  · rw [e0]
    show (⟨0, _, _, false⟩ : Sl) = ⟨_, _, _, decide ((i : Int) * 1099511627776 + 1099511627776 < _)⟩
    rw [show decide ((i : Int) * 1099511627776 + 1099511627776 < (i : Int) * 1099511627776 + 1) = false by simp]
    rfl
  · show (⟨_, upd (fW i).c 0 (((fW i).c 0).work ((i : Int) * 1099511627776 + 1 - i * 1099511627776))⟩ : Pl) = _
    have e2 : (i : Int) * 1099511627776 + 1 - i * 1099511627776 = 1 := by omega
    have e3 : ((fW i).c 0).work 1 = ⟨⟨(i + 1 : Nat) * 1099511627776, 1099511627776, 1, 0⟩, [], 0⟩ := by
      show (if (0 : Int) + 1 < 1 then _ else (⟨⟨(i : Int) * 1099511627776 + 1099511627776, 1099511627776, 1, 0⟩, [], 0⟩ : Crs)) = _
      rw [if_neg (by omega)]
      have : (i : Int) * 1099511627776 + 1099511627776 = ((i + 1 : Nat) : Int) * 1099511627776 := by omega
      rw [this]
    rw [e2, e3]
    unfold fW upd
    have e4 : (i : Int) * 1099511627776 + 1 = if i + 1 = 0 then 0 else ((i + 1 - 1 : Nat) : Int) * 1099511627776 + 1 := by
      rw [if_neg (by omega), Nat.add_sub_cancel]
    rw [e4]
    congr 1
    funext x
    by_cases q : x = 0
    · rw [if_pos q, if_pos q]
    · rw [if_neg q, if_neg q]
      show (if x = 0 then _ else _) = _
      rw [if_neg q]
/-- late: one task that has all its time, up to the last tick. -/
theorem full_0 (E : Int) : newP (tn ⟨E, E, 0⟩) = fullP E 0 := by
  unfold fullP
  show Pl.mk 0 _ = Pl.mk (((0 : Nat) : Int) * E) _
  rw [show ((0 : Nat) : Int) * E = 0 by simp]
  congr 1
  funext i
  by_cases q : i = 0
  · subst q; rfl
  · rw [if_neg q]; rfl
def sEnd : Pl := (fullP 1099511627775 1048576).go 0 1048571 1152921504606846971
def sP (r : Nat) : Pl := if r = 17 then sEnd else fullP 1099511627775 (r * 65536)
theorem sP_until {r : Nat} (hr : r < 17) : ∃ D, untilN 1 1152921504606846971 65536 (sP r) = (D, sP (r + 1)) := by
  have e0 : sP r = fullP 1099511627775 (r * 65536) := if_neg (by omega)
  by_cases h : r < 16
  · have e1 : sP (r + 1) = fullP 1099511627775 (r * 65536 + 65536) := by
      show (if r + 1 = 17 then _ else _) = _
      rw [if_neg (by omega), Nat.add_mul, Nat.one_mul]
    rw [e0, e1]
    exact ⟨_, full_until (by omega) 65536 (r * 65536) (by omega) (by omega)⟩
  · obtain rfl : r = 16 := by omega
    have e1 : sP (16 + 1) = sEnd := rfl
    rw [e0, e1]
    have hJ : (fullP 1099511627775 (16 * 65536)).J 0 = ⟨0, 1152921504605798400, 1152921504605798400 + 1099511627775, 1099511627775 - 0, 0⟩ := rfl
    have hn : (fullP 1099511627775 (16 * 65536)).now = 1152921504605798400 := rfl
    have hrun : runN (fullP 1099511627775 (16 * 65536)).J (fullP 1099511627775 (16 * 65536)).now 1 = ((fullP 1099511627775 (16 * 65536)).J 0, 1152921504605798400) := by
      rw [one_runs (by rw [hn, hJ]; show max (1152921504605798400 : Int) 1152921504605798400 < 9223372036854775807; omega), hn, hJ]
      rfl
    have hend : min (endN (fullP 1099511627775 (16 * 65536)).J ((fullP 1099511627775 (16 * 65536)).J 0) (1152921504605798400 + ((fullP 1099511627775 (16 * 65536)).J 0).left) 1) 1152921504606846971 = 1152921504606846971 := by
      rw [one_ends, hJ]
      rfl
    have := until_step (n := 1) (tick := 1152921504606846971) (k := 65535) (p := fullP 1099511627775 (16 * 65536)) (m := 0) (f := 1152921504605798400) (by rw [hn]; omega) hrun (by omega)
    rw [hend] at this
    have hg : (fullP 1099511627775 (16 * 65536)).go 0 (1152921504606846971 - 1152921504605798400) 1152921504606846971 = sEnd := rfl
    rw [hg, until_out (k := 65535) (p := sEnd) (by show ¬ (1152921504606846971 : Int) < 1152921504606846971; omega)] at this
    exact ⟨_, this⟩
theorem sEnd_next : nextE 1 sEnd = 1152922604117426175 := by kernel_rfl
/-- far: two that run once each. -/
def vT : Nat → Tk := tw ⟨1099511627776, 1099511627776, 0⟩ ⟨1099511627776, 1099511627776, 1⟩
def v1 : Pl := (nextP 2 (newP vT)).2
def v2 : Pl := (nextP 2 v1).2
theorem v_s1 : (nextP 2 (newP vT)).1 = ⟨1, 0, 1099511627776, false⟩ := by kernel_rfl
theorem v_e1 : nextE 2 (newP vT) = 1099511627776 := by kernel_rfl
theorem v_s2 : (nextP 2 v1).1 = ⟨0, 1099511627776, 2199023255552, true⟩ := by kernel_rfl
theorem v_e2 : nextE 2 v1 = 2199023255552 := by kernel_rfl
theorem v_l : (v2.c 0).last = ⟨1099511627776, 1099511627776, 1099511627776, 0⟩ ∧ (v2.c 1).last = ⟨1099511627776, 1099511627776, 1099511627776, 1⟩ := ⟨by kernel_rfl, by kernel_rfl⟩
theorem v_load : loadN (fun _ => 1099511627776) (fun _ => 1099511627776) 2 = some (2, 1) := by decide +kernel
/-- late. -/
def pT : Nat → Tk := tw ⟨4, 4, 0⟩ ⟨1, 1, 0⟩
def p1 : Pl := (untilN 2 7 65536 (newP pT)).2
def pD1 : List Sl := [⟨1, 0, 1, false⟩, ⟨1, 1, 2, false⟩, ⟨1, 2, 3, false⟩, ⟨0, 3, 7, true⟩]
def pD2 : List Sl := [⟨1, 7, 8, true⟩, ⟨1, 8, 9, true⟩, ⟨1, 9, 10, true⟩, ⟨1, 10, 11, true⟩, ⟨0, 11, 12, true⟩]
theorem p_1 : untilN 2 7 65536 (newP pT) = (pD1, p1) := until_eq (by kernel_rfl)
theorem p_2 : ∃ q, untilN 2 12 65536 p1 = (pD2, q) := ⟨_, until_eq (by kernel_rfl)⟩
def qT : Nat → Tk := tn ⟨2, 1, 0⟩
def q1 : Pl := (untilN 1 2 65536 (newP qT)).2
def q2 : Pl := q1.set 0 ⟨⟨2, 2, 1, 0⟩, [⟨4, 5, 1, 0⟩], 0⟩
def qD : List Sl := [⟨0, 2, 3, false⟩, ⟨0, 4, 5, false⟩, ⟨0, 9, 10, false⟩]
theorem q_1 : untilN 1 2 65536 (newP qT) = ([⟨0, 0, 1, false⟩], q1) := until_eq (by kernel_rfl)
theorem q_c : (q1.c 0).tl = [] ∧ (q1.c 0).hd = ⟨2, 2, 1, 0⟩ ∧ (q1.c 0).done = 0 ∧ q1.now = 2 := ⟨by kernel_rfl, by kernel_rfl, by kernel_rfl, by kernel_rfl⟩
theorem q_2 : ∃ q, untilN 1 12 65536 q2 = (qD, q) := ⟨_, until_eq (by kernel_rfl)⟩
theorem r_load : loadN (fun i => if i = 0 then 1099511627689 else 8388593) (fun _ => 1) 2 = none := by decide +kernel
def uT : Nat → Tk := tw ⟨6, 6, 0⟩ ⟨2, 1, 0⟩
def u1 : Pl := (untilN 2 8 65536 (newP uT)).2
def u2 : Pl := u1.set 0 ⟨⟨6, 6, 6, 0⟩, [⟨12, 1000, 1, 0⟩], 0⟩
def uD1 : List Sl := [⟨1, 8, 9, true⟩, ⟨1, 9, 10, true⟩, ⟨1, 10, 11, true⟩]
def uD2 : List Sl := [⟨1, 17, 18, true⟩, ⟨1, 18, 19, true⟩, ⟨1, 19, 20, true⟩, ⟨1, 20, 21, true⟩, ⟨1, 21, 22, true⟩, ⟨1, 22, 23, true⟩, ⟨1, 23, 24, false⟩, ⟨1, 24, 25, false⟩]
def uD3 : List Sl := [⟨0, 25, 26, false⟩, ⟨1, 26, 27, false⟩, ⟨1, 28, 29, false⟩]
def uD : List Sl := uD1 ++ [⟨0, 11, 17, true⟩] ++ uD2 ++ uD3
theorem u_1 : untilN 2 8 65536 (newP uT) = ([⟨1, 0, 1, false⟩, ⟨0, 1, 2, false⟩, ⟨1, 2, 3, false⟩, ⟨0, 3, 8, true⟩], u1) := until_eq (by kernel_rfl)
theorem u_c : (u1.c 0).tl = [] ∧ (u1.c 0).hd = ⟨6, 6, 6, 0⟩ ∧ (u1.c 0).done = 0 ∧ u1.now = 8 := ⟨by kernel_rfl, by kernel_rfl, by kernel_rfl, by kernel_rfl⟩
theorem u_2 : ∃ q, untilN 2 30 65536 u2 = (uD, q) := ⟨_, until_eq (by kernel_rfl)⟩
/-- PlanKnown's own. -/
def aT : Nat → Tk := tw ⟨2, 1, 0⟩ ⟨2, 1, 9⟩
def a1 : Pl := (nextP 2 (newP aT)).2
def a2 : Pl := (nextP 2 a1).2
theorem a_s1 : (nextP 2 (newP aT)).1 = ⟨1, 0, 1, false⟩ := by kernel_rfl
theorem a_e1 : nextE 2 (newP aT) = 1 := by kernel_rfl
theorem a_s2 : (nextP 2 a1).1 = ⟨0, 1, 2, false⟩ := by kernel_rfl
theorem a_e2 : nextE 2 a1 = 2 := by kernel_rfl
def bT : Nat → Tk := tw ⟨2, 2, 0⟩ ⟨3, 1, 0⟩
def bD : List Sl := [⟨0, 0, 2, false⟩, ⟨1, 2, 3, false⟩, ⟨0, 3, 5, true⟩, ⟨0, 5, 6, false⟩]
theorem b_1 : ∃ q, untilN 2 6 65536 (newP bT) = (bD, q) := ⟨_, until_eq (by kernel_rfl)⟩
def cT : Nat → Tk := tn ⟨4, 2, 0⟩
def cq1 : Pl := (untilN 1 1 65536 (newP cT)).2
def cD1 : List Sl := [⟨0, 0, 1, false⟩]
def cD2 : List Sl := [⟨0, 1, 2, false⟩, ⟨0, 4, 6, false⟩, ⟨0, 8, 9, false⟩]
theorem c_1 : untilN 1 1 65536 (newP cT) = (cD1, cq1) := until_eq (by kernel_rfl)
theorem c_2 : ∃ q, untilN 1 9 65536 cq1 = (cD2, q) := ⟨_, until_eq (by kernel_rfl)⟩
def nP : Pl := newP (tn Tk.zero)
theorem n_1 : untilN 0 5 65536 nP = ([], nP.at 5) := until_far (k := 65535) (by show (0 : Int) < 5; omega) (by show (5 : Int) ≤ 9223372036854775807; omega)
theorem n_2 : untilN 0 3 65536 (nP.at 5) = ([], nP.at 5) := until_out (by show ¬ (5 : Int) < 3; omega)
def d1 : Pl := (untilN 1 1 65536 (newP qT)).2
def d2 : Pl := d1.set 0 ⟨⟨2, 3, 1, 0⟩, [], 0⟩
def dD : List Sl := [⟨0, 2, 3, false⟩, ⟨0, 5, 6, false⟩, ⟨0, 8, 9, false⟩]
theorem d_1 : untilN 1 1 65536 (newP qT) = ([⟨0, 0, 1, false⟩], d1) := until_eq (by kernel_rfl)
theorem d_c : (d1.c 0).tl = [] ∧ (d1.c 0).hd.nx = 2 ∧ (d1.c 0).done = 0 ∧ d1.now = 1 := ⟨by kernel_rfl, by kernel_rfl, by kernel_rfl, by kernel_rfl⟩
theorem d_2 : ∃ q, untilN 1 9 65536 d2 = (dD, q) := ⟨_, until_eq (by kernel_rfl)⟩
end Go.Proofs.Ytjklaemhfhakhaa

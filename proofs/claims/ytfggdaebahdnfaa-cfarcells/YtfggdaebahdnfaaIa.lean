/- The cells of a place, the document's. -/
import Derived.Test.YtfggdaebahdnfaaHh
namespace Go.Proofs.Ytfggdaebahdnfaa
open Go.ChangeShapes Go.WideShapes Go.ChangeAt Go.RowKit Go.Fl Go.Sort
attribute [local go_sem] run_store_float run_store_func call35 call46 run_neg fold_eq fold_ne fold_lt fold_gt abs_eq

theorem ext_step (d : Array Nat) {a i : Nat} (ha : a ≤ i) (hi : i < d.size) : (d.extract a (i + 1)).toList = (d.extract a i).toList ++ [d[i]!] := by
  rw [Array.toList_extract, Array.toList_extract, List.extract_eq_take_drop, List.extract_eq_take_drop, show i + 1 - a = (i - a) + 1 by omega, List.take_add_one]
  congr 1
  rw [List.getElem?_drop, show a + (i - a) = i by omega, Array.getElem?_toList, Array.getElem?_eq_getElem hi, getElem!_pos d i hi]
  rfl
theorem ext_end (d : Array Nat) {a i b : Nat} (h : (i = a ∧ (b ≤ a ∨ d.size ≤ a)) ∨ (i ≤ b ∧ i ≤ d.size ∧ (b ≤ i ∨ d.size ≤ i))) : d.extract a i = d.extract a b :=
  Array.ext (by simp; omega) (fun k h1 h2 => by simp)
theorem ext_len (d : Array Nat) (a i : Nat) : (d.extract a i).toList.length = min i d.size - a := by simp; omega
theorem fit_cut {d : Array Nat} (h : Fit d) (a b : Nat) : Fit (d.extract a b) := by
  have e : d.extract a b = d.extract a (min b d.size) := Array.ext (by simp) (fun k h1 h2 => by simp)
  rw [e]; exact fit_sub h a _ (by omega)
/-- A row of one's own gets one float more. -/
theorem own_push {w wr w1 : World} {v v' : Value} {x m b : Nat} {O : List Nat} (hb : w.heap.size ≤ b) (hown : wr.ownsRow b 24 1 v m (O.map fe)) (hbel : Up w wr) {c : Array Value} {t : TypeId}
    (hown' : w1.ownsRow b 24 1 v' (m + 1) (O.map fe ++ [.float .f64 x])) (hg : (wr.alloc (.cells c t)).grownBy w1 v.ownBlock) :
    w1.ownsRow b 24 1 v' (m + 1) ((O ++ [x]).map fe) ∧ Up w w1 := by
  refine ⟨by rw [List.map_append]; exact hown', ?_⟩
  have hs : w.heap.size ≤ wr.heap.size := RowKit.Below.size hbel
  exact (RowKit.Below.alloc hbel hs _).grown hg (by simp; omega) (fun j hj => Nat.le_trans hb (hown.lt j hj).1)
set_option maxHeartbeats 1000000 in
theorem t51 {w : World} {p : Option Addr} {n cap : Nat} {d : Array Nat} (lo hi : Int) {A B : Nat} (hA : max 0 lo = (A : Int)) (hB : (hi + 1).toNat = B) (h : SV w p n cap d) (hn : n ≤ 16384) (b1 : -100000 ≤ hi) (b2 : hi ≤ 100000) (b3 : -100000 ≤ lo) (b4 : lo ≤ 100000) :
    Calls Try.prog 51 #[.slice p n cap, .int .i64 lo, .int .i64 hi] w (RV w (min B n - A) (d.extract A B)) := by
  obtain ⟨i0, hi0, hz0, hz1, hz2⟩ := info_parts info23
  have H : Hid (SV w p n cap d) := h
  have hm : (if lo < 0 then (0 : Int) else lo) = (A : Int) := by split <;> omega
  clear h
  go_enter Try.func51, Try.ntmps51
  go_wp2
  all_goals
    go_loopw [7, 8] (fun v vi wr => ∃ (i m c : Nat) (p : Option Addr), v = .slice p m c ∧ vi = .int .i64 i ∧ ((A ≤ i ∧ Hid (m = i - A)) ∧ (i = A ∨ (i ≤ B ∧ i ≤ n))) ∧ Hid (wr.ownsRow w.heap.size 24 1 (.slice p m c) m ((d.extract A i).toList.map fe)) ∧ Hid (Up w wr)) (fun _ vi _ => n - (intOf vi).toNat)
    case atStart =>
      refine ⟨A, 0, 0, none, rfl, by congr 1; omega, ⟨⟨Nat.le_refl _, (Nat.sub_self A).symm⟩, Or.inl rfl⟩, ?_, Up.refl _⟩
      rw [show (d.extract A A).toList = [] by simp]
      exact World.ownsRow_nil _ _ _ _
    case round =>
      obtain ⟨i, m, c, q, rfl, rfl, ⟨⟨hai, HMI⟩, hin⟩, HO, HU⟩ := hrel
      have hmb : m ≤ 16384 := by have := HMI.out; omega
      rename World => W
      by_cases hlt : (i : Int) ≤ hi ∧ i < n
      · obtain ⟨hl1, hl2⟩ := hlt
        obtain ⟨blk, off, rfl, hr⟩ := H.out.rd (by omega)
        obtain ⟨x, hx⟩ : ∃ x, d[i]! = x := ⟨_, rfl⟩
        have cx := cell_up (hr i (by rw [H.out.len]; exact hl2)) HU.out
        rw [hx] at cx
        have HX : Hid _ := hx
        clear hx hr
        have hl3 : (i : Int) < (n : Int) := by omega
        have sz : w.heap.size ≤ W.heap.size := RowKit.Below.size HU.out
        obtain ⟨O, hO⟩ : ∃ O, (d.extract A i).toList = O := ⟨_, rfl⟩
        have hown := HO.out
        rw [hO] at hown
        have HOO : Hid _ := hO
        clear hO
        go_wp2_with (at_builtin; refine wpList_append_own _ rfl _ _ 22 rfl w.heap.size 24 i0 (.float .f64 0) 1 8 Try.underlying22 hi0 hz0 hz1 hz2 rfl (by decide) _ _ _ rfl (hown.alloc _) ⟨W.heap.size, 0, none⟩ 1 1 [.float .f64 x] rfl rfl (cell_new _ _ _) (one_cell _) (by unfold maxLen; omega) (by omega) (by simp; omega) ?_)
        intro v' w3 hown' hgrow _
        have R := own_push (Nat.le_refl _) hown HU.out hown' hgrow
        obtain ⟨p', c', hv, _⟩ := own_form R.1
        subst hv
        have HO3 : Hid (w3.ownsRow w.heap.size 24 1 (.slice p' (m + 1) c') (m + 1) ((d.extract A (i + 1)).toList.map fe)) := by
          rw [ext_step d hai (by rw [H.out.len]; exact hl2), HX.out, HOO.out]; exact R.1
        have HU3 : Hid (Up w w3) := R.2
        clear hown' hgrow hown R HO HU cx
        go_wp2
        go_roundw
        case rel => exact ⟨i + 1, m + 1, c', p', rfl, by go_num, ⟨⟨by omega, by have := HMI.out; show _ = _; omega⟩, Or.inr ⟨by omega, by omega⟩⟩, HO3, HU3⟩
        case measure => simp [intOf]; omega
      · have e1 : d.extract A i = d.extract A B := ext_end d (by rw [H.out.len]; omega)
        have hm2 : m = min B n - A := by
          have := ext_len d A B
          rw [← e1, ext_len, H.out.len] at this
          have := HMI.out
          omega
        have HO2 : Hid (W.ownsRow w.heap.size 24 1 (.slice q m c) m ((d.extract A B).toList.map fe)) := by rw [← e1]; exact HO.out
        have HM : Hid _ := hm2
        clear HO e1 hm2
        have FIN : Hid (RV w (min B n - A) (d.extract A B) (.returned (.slice q m c)) W) := by
          rw [← HM.out]
          exact ⟨q, c, rfl, sv_own HO2.out (by rw [← Array.length_toList, ext_len, H.out.len, HM.out]) (fit_cut H.out.fit A B), HU⟩
        by_cases hl1 : (i : Int) ≤ hi
        · have hl3 : ¬ (i : Int) < (n : Int) := by omega
          go_wp2
          go_ret
          exact FIN.out
        · go_wp2
          go_ret
          exact FIN.out
end Go.Proofs.Ytfggdaebahdnfaa

/- Beats and lists of cells that can be read; what Resolve refuses. -/
import Derived.Test.YtijfmaepoamkgabJi
import Derived.Test.YtijfmaepoamkgabLb
import Derived.Test.YtijfmaepoamkgabKc
import Derived.Test.YtijfmaepoamkgabPi
namespace Go.Proofs.Ytijfmaepoamkgab
open Go.ChangeShapes Go.WideShapes Go.ChangeAt Go.RowKit Go.Fl Go.Sort
attribute [local go_sem] run_store_float call18 run_neg fold_eq fold_ne fold_lt fold_gt abs_eq

structure Bt where
  c : Nat
  v : Nat
  r : Nat
  E : Int
  R : Int
def Bt.code (b : Bt) : Int := Gt.checkF (ab b.c) (ab b.v) (ab b.r) b.E b.R
def bC (b : Bt) : Array Value := #[.float .f64 b.c, .float .f64 b.v, .float .f64 b.r, .int .i64 b.E, .int .i64 b.R]
/-- A beat's cells at a place. -/
structure Q5 (w : World) (b o : Nat) (p : Bt) : Prop where
  c0 : w.cell? ⟨b, o, none⟩ = some (.float .f64 p.c)
  c1 : w.cell? ⟨b, o + 1, none⟩ = some (.float .f64 p.v)
  c2 : w.cell? ⟨b, o + 2, none⟩ = some (.float .f64 p.r)
  c3 : w.cell? ⟨b, o + 3, none⟩ = some (.int .i64 p.E)
  c4 : w.cell? ⟨b, o + 4, none⟩ = some (.int .i64 p.R)
theorem Q5.up {w w' : World} {b o : Nat} {p : Bt} (h : Q5 w b o p) (hu : Up w w') : Q5 w' b o p := ⟨cell_up h.c0 hu, cell_up h.c1 hu, cell_up h.c2 hu, cell_up h.c3 hu, cell_up h.c4 hu⟩
/-- A slice that can be read as beats. -/
def BV (w : World) (p : Option Addr) (n : Nat) (B : Nat → Bt) : Prop := ∀ i, i < n → ∃ b o, p = some ⟨b, o, none⟩ ∧ Q5 w b (o + i * 5) (B i)
theorem BV.up {w w' : World} {p : Option Addr} {n : Nat} {B : Nat → Bt} (h : BV w p n B) (hu : Up w w') : BV w' p n B := fun i hi => by
  obtain ⟨b, o, e, k⟩ := h i hi
  exact ⟨b, o, e, k.up hu⟩
theorem BV.less {w : World} {p : Option Addr} {n n' : Nat} {B : Nat → Bt} (h : BV w p n B) (hn : n' ≤ n) : BV w p n' B := fun i hi => h i (by omega)
theorem ir_up {w w' : World} {p : Option Addr} {n : Nat} {f : Nat → Int} (h : Fo.IR w p n f) (hu : Up w w') : Fo.IR w' p n f := Fo.IR.up h hu
/-- A slice that can be read as lists of cells. -/
def CV (w : World) (p : Option Addr) (n : Nat) (C : Nat → List Int) : Prop := ∀ i, i < n → ∃ b o q cap, p = some ⟨b, o, none⟩ ∧ w.cell? ⟨b, o + i, none⟩ = some (.slice q (C i).length cap) ∧ Fo.IR w q (C i).length (fun j => (C i)[j]!)
theorem CV.up {w w' : World} {p : Option Addr} {n : Nat} {C : Nat → List Int} (h : CV w p n C) (hu : Up w w') : CV w' p n C := fun i hi => by
  obtain ⟨b, o, q, cap, e, k, l⟩ := h i hi
  exact ⟨b, o, q, cap, e, cell_up k hu, ir_up l hu⟩
theorem CV.less {w : World} {p : Option Addr} {n n' : Nat} {C : Nat → List Int} (h : CV w p n C) (hn : n' ≤ n) : CV w p n' C := fun i hi => h i (by omega)
def IUp (w : World) (z : Int) (e : Ending) (w' : World) : Prop := e = .returned (.int .i64 z) ∧ Hid (Up w w')
set_option maxRecDepth 20000 in
set_option maxHeartbeats 2000000 in
theorem t25 {w : World} {p q : Option Addr} {n c1 c2 : Nat} {B : Nat → Bt} {C : Nat → List Int} {off most : Int} (hB : BV w p n B) (hC : CV w q n C) (hn : n < 4611686018427387904) : Calls Try.prog 25 #[.slice p n c1, .slice q n c2, .int .i64 off, .int .i64 most] w (IUp w (refC (fun i => (B i).code) (fun i => (C i).length) n off most)) := by
  generalize hA : refC (fun i => (B i).code) (fun i => (C i).length) n off most = A
  have HA : Hid (A = refC (fun i => (B i).code) (fun i => (C i).length) n off most) := hA.symm
  clear hA
  by_cases h8 : 8 < n
  · have HN : Hid (A = 3) := by
      have e := HA.out
      unfold refC at e
      rw [if_pos h8] at e
      exact e
    have h8' : (8 : Int) < n := by omega
    clear HA
    go_enter Try.func25, Try.ntmps25
    go_wp2
    go_ret
    exact ⟨by rw [HN.out]; rfl, Up.refl _⟩
  · have HB : Hid (BV w p n B) := hB
    have HC : Hid (CV w q n C) := hC
    have h8' : (n : Int) ≤ 8 := by omega
    have H8 : Hid (¬ 8 < n) := h8
    clear hB hC h8 hn
    go_enter Try.func25, Try.ntmps25
    go_wp2
    go_loopw [10, 19, 20, 21, 22, 23, 24, 25, 26] (fun _ vi _ _ _ _ _ _ _ wr => ∃ i : Nat, i ≤ n ∧ vi = .int .i64 i ∧ w = wr ∧ Hid (longB (fun i => (C i).length) i = false)) (fun _ vi _ _ _ _ _ _ _ _ => n - (intOf vi).toNat)
    case atStart => exact ⟨0, by omega, rfl, rfl, rfl⟩
    case round =>
      obtain ⟨i, hi, rfl, hw, HI⟩ := hrel
      subst hw
      by_cases hlt : i < n
      · obtain ⟨b, o, q', cap, rfl, c0, -⟩ := HC.out i hlt
        by_cases hl : 256 < (C i).length
        · have hl' : (256 : Int) < (C i).length := by omega
          have HN : Hid (A = 3) := by
            have e := HA.out
            unfold refC at e
            rw [if_neg H8.out, if_pos (longB_at (L := fun i => (C i).length) hl n hlt)] at e
            exact e
          go_wp2
          go_ret
          exact ⟨by rw [HN.out]; rfl, Up.refl _⟩
        · have hl' : ((C i).length : Int) ≤ 256 := by omega
          have HN : Hid (longB (fun i => (C i).length) (i + 1) = false) := longB_next HI.out (by omega)
          clear HI hl
          go_wp2
          go_roundw
          case rel => exact ⟨i + 1, by omega, by go_num, by first | rfl | trivial, HN⟩
          case measure => simp [intOf]; omega
      · obtain rfl : i = n := by omega
        have HL : Hid (longB (fun i => (C i).length) i = false) := HI.out
        clear HI hlt
        go_wp2
        go_loopw [12, 13, 29, 30, 31, 32, 33, 34, 35, 36, 37, 38] (fun _ _ vi _ _ _ _ _ _ _ _ _ wr => ∃ j : Nat, j ≤ i ∧ vi = .int .i64 j ∧ Hid (Up wr wr ∧ Up w wr ∧ firstE (fun i => (B i).code) j = 0)) (fun _ _ vi _ _ _ _ _ _ _ _ _ _ => i - (intOf vi).toNat)
        case atStart => exact ⟨0, by omega, rfl, Up.refl _, Up.refl _, rfl⟩
        case round =>
          clear HC
          obtain ⟨j, hj, rfl, HJ⟩ := hrel
          rename World => wr
          by_cases hlt : j < i
          · obtain ⟨b, o, rfl, ⟨d0, d1, d2, d3, d4⟩⟩ := (HB.out.up HJ.out.2.1) j hlt
            have CK : Hid (∀ w, Calls Try.prog 33 #[.agg #[.float .f64 (B j).c, .float .f64 (B j).v, .float .f64 (B j).r, .int .i64 (B j).E, .int .i64 (B j).R]] w (Gt.IU w (B j).code)) := fun w => Gt.t33 _ _ _ _ _ w
            generalize hcd : (B j).code = cd at *
            by_cases hc : cd = 0
            · subst hc
              have HN : Hid (firstE (fun i => (B i).code) (j + 1) = 0) := firstE_next HJ.out.2.2 hcd
              go_wp2_with (go_at_call 33; (with_reducible refine (CK.out _).mono ?_); rintro e w' ⟨rfl, HU⟩)
              go_roundw
              case rel => exact ⟨j + 1, by omega, by go_num, Up.refl _, HJ.out.2.1.trans ((Up.alloc _ _).trans HU.out), HN.out⟩
              case measure => simp [intOf]; omega
            · have hcb : (cd != 0) = true := by simp [hc]
              have HN : Hid (A = cd) := by
                have e := HA.out
                unfold refC at e
                have e3 : firstE (fun i => (B i).code) i = cd := by
                  rw [← hcd]
                  exact firstE_at (c := fun i => (B i).code) HJ.out.2.2 (by rw [hcd]; exact hc) i hlt
                rw [if_neg H8.out, if_neg (by rw [HL.out]; simp), if_pos (by rw [e3]; exact hc), e3] at e
                exact e
              clear hc
              go_wp2_with (go_at_call 33; (with_reducible refine (CK.out _).mono ?_); rintro e w' ⟨rfl, HU⟩)
              go_ret
              exact ⟨by rw [HN.out]; rfl, HJ.out.2.1.trans ((Up.alloc _ _).trans HU.out)⟩
          · obtain rfl : j = i := by omega
            have HN : Hid (A = if off < 0 ∨ most < 0 then 2 else if 1048576 < most then 3 else 0) := by
              have e := HA.out
              unfold refC at e
              rw [if_neg H8.out, if_neg (by rw [HL.out]; simp), if_neg (by rw [HJ.out.2.2]; simp)] at e
              exact e
            clear HA HL hlt
            by_cases ho : off < 0
            · have HN2 : Hid (A = 2) := by
                have e := HN.out
                rw [if_pos (Or.inl ho)] at e
                exact e
              clear HN
              go_wp2
              go_ret
              exact ⟨by rw [HN2.out]; rfl, HJ.out.2.1⟩
            · by_cases hm : most < 0
              · have HN2 : Hid (A = 2) := by
                  have e := HN.out
                  rw [if_pos (Or.inr hm)] at e
                  exact e
                clear HN
                go_wp2
                go_ret
                exact ⟨by rw [HN2.out]; rfl, HJ.out.2.1⟩
              · by_cases hg : 1048576 < most
                · have HN2 : Hid (A = 3) := by
                    have e := HN.out
                    rw [if_neg (by omega), if_pos hg] at e
                    exact e
                  clear HN
                  go_wp2
                  go_ret
                  exact ⟨by rw [HN2.out]; rfl, HJ.out.2.1⟩
                · have HN2 : Hid (A = 0) := by
                    have e := HN.out
                    rw [if_neg (by omega), if_neg hg] at e
                    exact e
                  clear HN
                  go_wp2
                  go_ret
                  exact ⟨by rw [HN2.out]; rfl, HJ.out.2.1⟩
end Go.Proofs.Ytijfmaepoamkgab
/- What one cell reaches. -/
namespace Go.Proofs.Ytijfmaepoamkgab
open Go.ChangeShapes Go.WideShapes Go.ChangeAt Go.RowKit Go.Fl Go.Sort
attribute [local go_sem] run_store_float call18 run_neg fold_eq fold_ne fold_lt fold_gt abs_eq

/-- The places of a row that a cell reaches. -/
def nearO (off : Int) (e : Nat) (c : Int) : List Int := nearL (fun (x : Nat) => far x c e) off e
theorem nearO_len (off : Int) (e : Nat) (c : Int) : (nearO off e c).length ≤ e := nearL_len _ _ _
theorem nearO_mem {off : Int} {e : Nat} {c : Int} {y : Nat} : (y : Int) ∈ nearO off e c ↔ y < e ∧ far y c e ≤ off := nearL_mem
theorem nearO_at {off : Int} {e : Nat} {c : Int} {j : Nat} (h : j < (nearO off e c).length) : ∃ y : Nat, (nearO off e c)[j]! = y ∧ y < e := by
  have hm : (nearO off e c)[j]! ∈ nearO off e c := by rw [getElem!_pos _ j h]; exact List.getElem_mem h
  obtain ⟨x, hx, h1, _⟩ := nearL_form hm
  exact ⟨x, hx, h1⟩
theorem nearO_full {off : Int} {e : Nat} {c : Int} (h : (nearO off e c).length = e) : ∀ y, y < e → far y c e ≤ off := by
  intro y hy
  unfold nearO nearL at h
  rw [List.length_map] at h
  have h2 : ((List.range e).filter fun (x : Nat) => decide (far (x : Int) c e ≤ off)).length = (List.range e).length := by rw [h, List.length_range]
  have := List.length_filter_eq_length_iff.1 h2 y (List.mem_range.2 hy)
  simpa using this
theorem nears_one (off : Int) (e : Nat) (c : Int) (r m : Nat → Int) (h1 : 1 ≤ e) (hr : r 0 = c) (hm : m 0 = e) : Fo.nears r m 1 off e = nearO off e c := by
  unfold Fo.nears nearO
  rw [Int.toNat_natCast]
  congr 1
  funext x
  show max 0 (far x (r 0) (m 0)) = _
  rw [hr, hm]
  have := (far_nn (x := (x : Int)) (r := c) (m := e) (by omega)).1
  omega
set_option maxRecDepth 20000 in
theorem near1 {w : World} {p q : Option Addr} {c1 c2 : Nat} {e : Nat} {c off : Int} (h1 : 1 ≤ e) (h2 : e ≤ 16384) (h0 : 0 ≤ off) (hoff : off ≤ 9223372036854775807) (hr : Fo.IR w p 1 (fun _ => c)) (hm : Fo.IR w q 1 (fun _ => (e : Int))) : Calls Try.prog 14 #[.slice p 1 c1, .slice q 1 c2, .int .i64 off, .int .i64 e] w fun en w' => ∃ p' c', en = .returned (.tuple #[.slice p' (nearO off e c).length c', .int .i64 0]) ∧ Hid (Up w w') ∧ Hid (Fo.IR w' p' (nearO off e c).length (fun j => (nearO off e c)[j]!)) ∧ Hid (∀ b o, p' = some ⟨b, o, none⟩ → w.heap.size ≤ b) := by
  refine (Fo.t14 p q 1 1 c1 c2 (fun _ => c) (fun _ => (e : Int)) off e w hr hm hoff).mono ?_
  rintro en w' ⟨HU, h⟩
  have hC : Fo.ringsC (fun _ => (e : Int)) 1 1 (decide (off < 0) || decide ((e : Int) < 0)) e = 0 := by
    unfold Fo.ringsC
    simp [Fo.ringsE]
    omega
  have hN := nears_one off e c (fun _ => c) (fun _ => (e : Int)) h1 rfl rfl
  have hL := nearO_len off e c
  have hC2 : Fo.nearC (Fo.ringsC (fun _ => (e : Int)) 1 1 (decide (off < 0) || decide ((e : Int) < 0)) e) (fun _ => c) (fun _ => (e : Int)) (min 1 1) off e = 0 := by
    unfold Fo.nearC
    rw [hC, if_neg (by simp), if_neg]
    rw [show min 1 1 = 1 from rfl, hN]
    omega
  rw [hC2] at h
  rcases h with ⟨h, _⟩ | ⟨_, v, rfl, ho⟩
  · exact absurd rfl h
  · rw [show min 1 1 = 1 from rfl, hN] at ho
    obtain ⟨p', c', hv, _⟩ := Fo.own_form ho.out
    subst hv
    obtain ⟨_, hir⟩ := Fo.OI.ir ho.out
    exact ⟨p', c', rfl, HU, hir, fun b o hb => by subst hb; exact (World.ownsRow.lt ho.out b rfl).1⟩
def rowL (off : Int) (e : Nat) (C : List Int) : List Bool := (List.range e).map fun y => anyB off e C (y : Nat)
theorem rowL_len (off : Int) (e : Nat) (C : List Int) : (rowL off e C).length = e := by simp [rowL]
/-- A row while the places of one cell are laid. -/
def midL (off : Int) (e : Nat) (C : List Int) (N : List Int) (j : Nat) : List Bool := (List.range e).map fun y => anyB off e C (y : Nat) || decide (((y : Nat) : Int) ∈ N.take j)
theorem midL_zero (off : Int) (e : Nat) (C N : List Int) : midL off e C N 0 = rowL off e C := by
  unfold midL rowL
  simp
theorem midL_next {off : Int} {e : Nat} {C N : List Int} {j y : Nat} (hj : j < N.length) (hy : N[j]! = y) : (midL off e C N j).set y true = midL off e C N (j + 1) := by
  unfold midL
  apply List.ext_getElem
  · simp
  · intro k h1 h2
    simp at h1 h2
    rw [List.getElem_set]
    simp only [List.getElem_map, List.getElem_range]
    have ht : N.take (j + 1) = N.take j ++ [(y : Int)] := by
      rw [List.take_add_one, List.getElem?_eq_getElem hj, ← hy, getElem!_pos N j hj]
      rfl
    rw [ht]
    by_cases e : y = k
    · subst e
      rw [if_pos rfl]
      simp
    · rw [if_neg e]
      congr 1
      rw [decide_eq_decide]
      simp
      omega
theorem midL_end {off : Int} {e : Nat} {C : List Int} {c : Int} : midL off e C (nearO off e c) (nearO off e c).length = rowL off e (C ++ [c]) := by
  unfold midL rowL
  apply List.map_congr_left
  intro y hy
  rw [List.mem_range] at hy
  rw [anyB_snoc, List.take_length]
  congr 1
  rw [decide_eq_decide, nearO_mem]
  simp [hy]
theorem row_full {off : Int} {e : Nat} {C : List Int} {i : Nat} (hi : i < C.length) (hf : (nearO off e C[i]!).length = e) : rowL off e (C.take (i + 1)) = rowL off e C := by
  unfold rowL
  apply List.map_congr_left
  intro y hy
  rw [List.mem_range] at hy
  have h := nearO_full hf y hy
  have hm : C[i]! ∈ C.take (i + 1) := by
    rw [getElem!_pos C i hi]
    exact List.mem_take_iff_getElem.2 ⟨i, by omega, rfl⟩
  have h1 : anyB off e (C.take (i + 1)) (y : Nat) = true := List.any_eq_true.2 ⟨_, hm, by simpa using h⟩
  have h2 : anyB off e C (y : Nat) = true := List.any_eq_true.2 ⟨_, List.mem_of_mem_take hm, by simpa using h⟩
  rw [h1, h2]
end Go.Proofs.Ytijfmaepoamkgab
/- reached. -/
namespace Go.Proofs.Ytijfmaepoamkgab
open Go.ChangeShapes Go.WideShapes Go.ChangeAt Go.RowKit Go.Fl Go.Sort
attribute [local go_sem] run_store_float call18 run_neg fold_eq fold_ne fold_lt fold_gt abs_eq

theorem info4 : (Try.prog.info? 4).map (fun i => (i.zero, i.size, i.bytes)) = some (some (.bool false), 1, 1) := by kernel_rfl
theorem made_bv (n : Nat) : (madeCells (Value.bool false).cells (n * 1)).toList = (List.replicate n false).map Value.bool := by
  rw [Nat.mul_one]
  show (madeCells #[Value.bool false] n).toList = _
  rw [toList_madeCells_one]; simp
def OB (b : Nat) (w : World) (v : Value) (d : List Bool) : Prop := OR Value.bool 4 b w v d
theorem rowL_none (off : Int) (e : Nat) : rowL off e [] = List.replicate e false := by
  unfold rowL anyB
  simp only [List.any_nil]
  rw [List.map_const']
  simp
/-- While a row is laid. -/
structure RI (w wr : World) (x g h e : Nat) (d : List Bool) : Prop where
  up : Up w wr
  row : OB w.heap.size wr (.slice (some ⟨g, 0, none⟩) e e) d
  bx : wr.cell? ⟨x, 3, none⟩ = some (.int .i64 e)
  ev : wr.cell? ⟨h, 0, none⟩ = some (.int .i64 e)
theorem RI.upon {w wr w2 : World} {x g h e : Nat} {d : List Bool} (k : RI w wr x g h e d) (hu : Up wr w2) : RI w w2 x g h e d := ⟨k.up.trans hu, OR.up k.row hu, cell_up k.bx hu, cell_up k.ev hu⟩
theorem RI.put {w wr : World} {x g h e : Nat} {d : List Bool} (k : RI w wr x g h e d) (hx : x ≠ g) (hh : h ≠ g) (hg : w.heap.size ≤ g) (y : Nat) : RI w (wr.setCell ⟨g, y, none⟩ (.bool true)) x g h e (d.set y true) := by
  obtain ⟨s1, s2⟩ := OR.put k.row y true
  exact ⟨s2.up k.up hg, s1, s2.cell hx k.bx, s2.cell hh k.ev⟩
theorem row_start {w W w1 : World} {g e : Nat} {off : Int} (hg : W.heap.size = g) (hown : w1.ownsRow w.heap.size 4 1 (.slice (some ⟨W.heap.size, 0, none⟩) e e) e (madeCells (Value.bool false).cells (e * 1)).toList) : OB w.heap.size w1 (.slice (some ⟨g, 0, none⟩) e e) (rowL off e []) := by
  rw [made_bv, hg] at hown
  rw [rowL_none]
  unfold OB OR
  simpa using hown
theorem ir_one {w : World} {g k : Nat} {v : Value} (hk : k < 1) (h : w.cell? ⟨g, 0, none⟩ = some v) : w.cell? ⟨g, 0 + k, none⟩ = some v := by
  obtain rfl : k = 0 := by omega
  exact h
/-- What reached leaves. -/
def RowR (w : World) (off : Int) (e : Nat) (C : List Int) (en : Ending) (w' : World) : Prop := ∃ g, en = .returned (.slice (some ⟨g, 0, none⟩) e e) ∧ Hid (Up w w' ∧ OB w.heap.size w' (.slice (some ⟨g, 0, none⟩) e e) (rowL off e C))
set_option maxRecDepth 20000 in
set_option maxHeartbeats 2000000 in
theorem t26 {w : World} {q : Option Addr} {cap : Nat} (c v r e : Nat) (R : Int) {C : List Int} {off : Int} (h1 : 1 ≤ e) (h2 : e ≤ 16384) (h0 : 0 ≤ off) (hoff : off ≤ 9223372036854775807) (hC : Fo.IR w q C.length (fun j => C[j]!)) (hl : C.length ≤ 256) : Calls Try.prog 26 #[.agg #[.float .f64 c, .float .f64 v, .float .f64 r, .int .i64 e, .int .i64 R], .slice q C.length cap, .int .i64 off] w (RowR w off e C) := by
  have HC : Hid (Fo.IR w q C.length (fun j => C[j]!)) := hC
  have h2' : (e : Int) ≤ 16384 := by omega
  have h1' : (1 : Int) ≤ e := by omega
  have hl' : (C.length : Int) ≤ 256 := by omega
  obtain ⟨i0, hi0, hz0, hz1, hz2⟩ := info_parts info4
  have HU1 : Hid (Up w (w.alloc (.cells #[.float .f64 c, .float .f64 v, .float .f64 r, .int .i64 e, .int .i64 R] 38))) := Up.alloc _ _
  have b3 : (w.alloc (.cells #[.float .f64 c, .float .f64 v, .float .f64 r, .int .i64 e, .int .i64 R] 38)).cell? ⟨w.heap.size, 3, none⟩ = some (.int .i64 e) := World.cell?_alloc_at _ _ _ _ rfl
  have HS : Hid ((w.alloc (.cells #[.float .f64 c, .float .f64 v, .float .f64 r, .int .i64 e, .int .i64 R] 38)).heap.size = w.heap.size + 1) := by show _ = _; simp
  clear hC
  go_enter Try.func26, Try.ntmps26
  go_wp2_with (refine wpList_make_full _ rfl _ _ 62 rfl w.heap.size 4 i0 (.bool false) 1 Try.underlying62 hi0 hz0 hz1 .i64 .i64 _ _ e rfl rfl rfl rfl (by rw [hz2]; omega) (by unfold maxLen; omega) (by simp) ?_; intro w1 hown hgr; (have HU2 : Hid (Up (w.alloc (.cells #[.float .f64 c, .float .f64 v, .float .f64 r, .int .i64 e, .int .i64 R] 38)) w1) := RowKit.Below.grown (Below.refl _ _) hgr (Nat.le_refl _) (fun j hj => by cases hj)); (have b3' := cell_up b3 HU2.out); (have HO : Hid (OB w.heap.size w1 (.slice (some ⟨w.heap.size + 1, 0, none⟩) e e) (rowL off e [])) := row_start HS.out hown); clear hown hgr b3)
  have HI : Hid (RI w (w1.alloc (.cells #[.int .i64 e] 2)) w.heap.size (w.heap.size + 1) w1.heap.size e (rowL off e (C.take 0))) := ⟨(HU1.out.trans HU2.out).trans (Up.alloc _ _), OR.up HO.out (Up.alloc _ _), cell_up b3' (Up.alloc _ _), World.cell?_alloc_at _ _ _ _ rfl⟩
  have HH : Hid (w.heap.size + 1 < w1.heap.size) := (OR.at_ HO.out).2
  clear HU1 HU2 b3' HS HO
  generalize w1.alloc (.cells #[.int .i64 e] 2) = w2 at *
  generalize hg : w.heap.size + 1 = g at *
  generalize w1.heap.size = h at *
  have HX : Hid (w.heap.size ≠ g ∧ h ≠ g ∧ w.heap.size ≤ g) := ⟨by omega, by have := HH.out; omega, by omega⟩
  generalize hx : w.heap.size = x at *
  go_loopw [10, 11, 12, 14, 23, 24, 25, 26, 27, 28, 29, 30, 31, 32, 33, 34, 35, 36, 37, 38, 39, 40, 41, 42, 43, 44, 45, 46, 47, 48, 49, 50, 51, 52, 53] (fun _ _ _ _ vi _ _ _ _ _ _ _ _ _ _ _ _ _ _ _ _ _ _ _ _ _ _ _ _ _ _ _ _ _ _ wr => ∃ i : Nat, i ≤ C.length ∧ vi = .int .i64 i ∧ Hid (RI w wr x g h e (rowL off e (C.take i)))) (fun _ _ _ _ vi _ _ _ _ _ _ _ _ _ _ _ _ _ _ _ _ _ _ _ _ _ _ _ _ _ _ _ _ _ _ _ => C.length - (intOf vi).toNat)
  case atStart => exact ⟨0, by omega, rfl, HI⟩
  case round =>
    clear HI
    obtain ⟨i, hi, rfl, HI⟩ := hrel
    rename World => wr
    by_cases hlt : i < C.length
    · obtain ⟨cb, co, rfl, cc⟩ := (ir_up HC.out HI.out.up) i hlt
      have e0 := HI.out.ev
      have e1 := HI.out.bx
      have HE : Hid (C.take (i + 1) = C.take i ++ [C[i]!]) := by
        show _ = _
        rw [List.take_add_one, List.getElem?_eq_getElem hlt, getElem!_pos C i hlt]
        rfl
      have HF : Hid ((nearO off e C[i]!).length = e → rowL off e (C.take (i + 1)) = rowL off e C) := fun hf => row_full hlt hf
      simp only at cc
      generalize C[i]! = z at *
      have HI1 : Hid (RI w (wr.alloc (.cells #[.int .i64 z] 2)) x g h e (rowL off e (C.take i))) := HI.out.upon (Up.alloc _ _)
      have C24 : Hid (Calls Try.prog 14 #[.slice (some ⟨wr.heap.size, 0, none⟩) 1 1, .slice (some ⟨h, 0, none⟩) 1 1, .int .i64 off, .int .i64 e] (wr.alloc (.cells #[.int .i64 z] 2)) fun en w' => ∃ p' c', en = .returned (.tuple #[.slice p' (nearO off e z).length c', .int .i64 0]) ∧ Hid (Up (wr.alloc (.cells #[.int .i64 z] 2)) w') ∧ Hid (Fo.IR w' p' (nearO off e z).length (fun j => (nearO off e z)[j]!)) ∧ Hid (∀ b o, p' = some ⟨b, o, none⟩ → (wr.alloc (.cells #[.int .i64 z] 2)).heap.size ≤ b)) :=
        near1 h1 h2 h0 hoff (fun k hk => ⟨wr.heap.size, 0, rfl, ir_one hk (World.cell?_alloc_at _ _ _ _ rfl)⟩) (fun k hk => ⟨h, 0, rfl, ir_one hk HI1.out.ev⟩)
      have e0' := HI1.out.ev
      have HGl : Hid (g < (wr.alloc (.cells #[.int .i64 z] 2)).heap.size) := (OR.at_ HI1.out.row).2
      go_wp2_with (go_at_call 14; (with_reducible refine C24.out.mono ?_); rintro en w3 ⟨p3, c3, rfl, HU3, HN3, HFr⟩)
      have HL3 : Hid ((nearO off e z).length ≤ e) := nearO_len off e z
      have hl3 : ((nearO off e z).length : Int) ≤ e := by have := HL3.out; omega
      have HI3 : Hid (RI w w3 x g h e (midL off e (C.take i) (nearO off e z) 0)) := by
        show RI _ _ _ _ _ _ _
        rw [midL_zero]
        exact HI1.out.upon HU3.out
      have HM : Hid (midL off e (C.take i) (nearO off e z) (nearO off e z).length = rowL off e (C.take (i + 1))) := by
        show _ = _
        rw [HE.out]
        exact midL_end
      have HAt : Hid (∀ j, j < (nearO off e z).length → ∃ y : Nat, (nearO off e z)[j]! = y ∧ y < e) := fun j hj => nearO_at hj
      have HFr2 : Hid (∀ b o, p3 = some ⟨b, o, none⟩ → b ≠ g) := fun b o hb => by
        have := HFr.out b o hb
        have := HGl.out
        omega
      clear C24 HI1 HI e0 e1 cc e0' HFr HGl
      generalize nearO off e z = N at *
      go_loopw [14, 40, 41, 42, 43, 44, 45, 46, 47] (fun _ vi _ _ _ _ _ _ _ wr => ∃ j : Nat, j ≤ N.length ∧ vi = .int .i64 j ∧ Hid (Up w3 w3 ∧ RI w wr x g h e (midL off e (C.take i) N j) ∧ Fo.IR wr p3 N.length (fun j => N[j]!))) (fun _ vi _ _ _ _ _ _ _ _ => N.length - (intOf vi).toNat)
      case atStart => exact ⟨0, by omega, rfl, Up.refl _, HI3.out, HN3.out⟩
      case round =>
        clear HI3 HN3
        obtain ⟨j, hj, rfl, HJ⟩ := hrel
        rename World => wr3
        by_cases hlj : j < N.length
        · obtain ⟨nb, no, rfl, nc⟩ := HJ.out.2.2 j hlj
          obtain ⟨y, hy, hye⟩ := HAt.out j hlj
          have cy := OR.cell HJ.out.2.1.row (i := y) (by simp [midL]; omega)
          have fy := OR.frz HJ.out.2.1.row y
          have HP : Hid (RI w (wr3.setCell ⟨g, y, none⟩ (.bool true)) x g h e (midL off e (C.take i) N (j + 1))) := by
            show RI _ _ _ _ _ _ _
            rw [← midL_next hlj hy]
            exact HJ.out.2.1.put HX.out.1 HX.out.2.1 (by rw [hx]; exact HX.out.2.2) y
          have HP2 : Hid (Fo.IR (wr3.setCell ⟨g, y, none⟩ (.bool true)) (some ⟨nb, no, none⟩) N.length (fun j => N[j]!)) := fun k hk => by
            obtain ⟨b', o', hb', hc'⟩ := HJ.out.2.2 k hk
            have hbg : b' ≠ g := HFr2.out b' o' hb'
            exact ⟨b', o', hb', (OR.put HJ.out.2.1.row y true).2.cell hbg hc'⟩
          simp only at nc
          rw [hy] at nc
          have hye' : (y : Int) < e := by omega
          generalize (midL off e (C.take i) N j)[y]! = old at cy
          clear HJ
          go_wp2
          go_roundw
          case rel => exact ⟨j + 1, by omega, by go_num, Up.refl _, HP.out, HP2.out⟩
          case measure => simp [intOf]; omega
        · obtain rfl : j = N.length := by omega
          have HR : Hid (RI w wr3 x g h e (rowL off e (C.take (i + 1)))) := by
            show RI _ _ _ _ _ _ _
            rw [← HM.out]
            exact HJ.out.2.1
          have e5 := HR.out.bx
          clear HJ
          by_cases hfull : N.length = e
          · have HZ : Hid (RI w wr3 x g h e (rowL off e C)) := by
              show RI _ _ _ _ _ _ _
              rw [← HF.out hfull]
              exact HR.out
            have hfb : ((N.length : Int) == (e : Int)) = true := by simp [hfull]
            clear hfull
            go_wp2
            go_ret
            exact ⟨g, rfl, HZ.out.up, by rw [hx]; have := HZ.out.row; rwa [hx] at this⟩
          · have hfb : ((N.length : Int) == (e : Int)) = false := by simp; omega
            clear hfull
            go_wp2
            go_roundw
            case rel => exact ⟨i + 1, by omega, by go_num, HR⟩
            case measure => simp [intOf]; omega
    · obtain rfl : i = C.length := by omega
      have HZ : Hid (RI w wr x g h e (rowL off e C)) := by
        show RI _ _ _ _ _ _ _
        have := HI.out
        rwa [List.take_length] at this
      go_wp2
      go_ret
      exact ⟨g, rfl, HZ.out.up, by rw [hx]; have := HZ.out.row; rwa [hx] at this⟩
end Go.Proofs.Ytijfmaepoamkgab
/- inEach. -/
namespace Go.Proofs.Ytijfmaepoamkgab
open Go.ChangeShapes Go.WideShapes Go.ChangeAt Go.RowKit Go.Fl Go.Sort
attribute [local go_sem] run_store_float call18 run_neg fold_eq fold_ne fold_lt fold_gt abs_eq

/-- A row of truths that can be read. -/
structure TRow (w : World) (ra i : Nat) (e : Nat) (off : Int) (C : List Int) : Prop where
  h1 : 1 ≤ e
  h2 : e ≤ 16384
  rd : ∃ g, w.cell? ⟨ra, i, none⟩ = some (.slice (some ⟨g, 0, none⟩) e e) ∧ ∀ y, y < e → w.cell? ⟨g, y, none⟩ = some (.bool (anyB off e C (y : Nat)))
theorem TRow.up {w w' : World} {ra i e : Nat} {off : Int} {C : List Int} (h : TRow w ra i e off C) (hu : Up w w') : TRow w' ra i e off C := by
  obtain ⟨h1, h2, g, h3, h4⟩ := h
  exact ⟨h1, h2, g, cell_up h3 hu, fun y hy => cell_up (h4 y hy) hu⟩
set_option maxRecDepth 20000 in
theorem t27 {w : World} {ra n cap : Nat} {E : Nat → Nat} {C : Nat → List Int} {off : Int} (x : Nat) (hn : n ≤ 8) (hx : x ≤ 1048576) (hr : ∀ i, i < n → TRow w ra i (E i) off (C i)) : Calls Try.prog 27 #[.slice (some ⟨ra, 0, none⟩) n cap, .int .i64 x] w fun e w' => e = .returned (.bool (allB off (fun i => (E i : Int)) C x n)) ∧ w' = w := by
  generalize hA : allB off (fun i => (E i : Int)) C x n = A
  have HA : Hid (A = allB off (fun i => (E i : Int)) C x n) := hA.symm
  have HR : Hid (∀ i, i < n → TRow w ra i (E i) off (C i)) := hr
  have hn' : (n : Int) ≤ 8 := by omega
  have hx' : (x : Int) ≤ 1048576 := by omega
  clear hr hA
  go_enter Try.func27, Try.ntmps27
  go_wp2
  go_loopw [6, 9, 10, 11, 12, 13, 14, 15, 16, 17, 18, 19, 20, 21] (fun _ vi _ _ _ _ _ _ _ _ _ _ _ _ wr => ∃ i : Nat, i ≤ n ∧ vi = .int .i64 i ∧ w = wr ∧ Hid (∀ j, j < i → anyB off (E j) (C j) x = true)) (fun _ vi _ _ _ _ _ _ _ _ _ _ _ _ _ => n - (intOf vi).toNat)
  case atStart => exact ⟨0, by omega, rfl, rfl, fun j hj => by omega⟩
  case round =>
    obtain ⟨i, hi, rfl, hw, HI⟩ := hrel
    subst hw
    by_cases hlt : i < n
    · obtain ⟨h1, h2, g, c0, hc⟩ := HR.out i hlt
      have hy := hc (x % E i) (Nat.mod_lt _ (by omega))
      have hb : anyB off (E i) (C i) ((x % E i : Nat) : Int) = anyB off (E i) (C i) x := by
        rw [Int.natCast_emod]; exact anyB_mod
      rw [hb] at hy
      have hm : (x : Int) % (E i : Int) = ((x % E i : Nat) : Int) := (Int.natCast_emod _ _).symm
      have hm2 : (x : Int).tmod (E i : Int) = ((x % E i : Nat) : Int) := by rw [Int.tmod_eq_emod_of_nonneg (by omega)]; exact hm
      have hlt2 : ((x % E i : Nat) : Int) < (E i : Int) := by have := Nat.mod_lt x (show 0 < E i by omega); omega
      have he0 : ¬ E i = 0 := by omega
      have he1 : ¬ (E i : Int) = 0 := by omega
      have he2 : (E i : Int) ≤ 16384 := by omega
      have he3 : (0 : Int) < (E i : Int) := by omega
      have HE : Hid (∀ b, anyB off (E i) (C i) x = b → b = true → ∀ j, j < i + 1 → anyB off (E j) (C j) x = true) := fun b h0 hbt j hj => by
        by_cases e : j = i
        · subst e; rw [h0]; exact hbt
        · exact HI.out j (by omega)
      have HF : Hid (anyB off (E i) (C i) x = false → A = false) := fun h => by rw [HA.out]; exact allB_false (E := fun i => (E i : Int)) hlt h
      generalize x % E i = y at *
      generalize hee : E i = ee at *
      generalize hbb : anyB off ee (C i) x = bb at *
      clear hc hb HI
      cases bb
      · have HF2 : Hid (A = false) := HF.out rfl
        go_wp2
        go_ret
        exact ⟨by rw [HF2.out]; rfl, rfl⟩
      · have HE2 : Hid (∀ j, j < i + 1 → anyB off (E j) (C j) x = true) := HE.out true rfl rfl
        go_wp2
        go_roundw
        case rel => exact ⟨i + 1, by omega, by go_num, by first | rfl | trivial, HE2⟩
        case measure => simp [intOf]; omega
    · obtain rfl : i = n := by omega
      have HF : Hid (A = true) := by
        show A = true
        rw [HA.out]
        exact allB_iff.2 HI.out
      go_wp2
      go_ret
      exact ⟨by rw [HF.out]; rfl, rfl⟩
end Go.Proofs.Ytijfmaepoamkgab

/- The statement on sums and places of floats, walked: a list that is not empty. -/
import Derived.Test.YtfifdngcdknbbaaK
namespace Go.Proofs.Ytfifdngcdknbbaa
open Go.ChangeShapes Go.WideShapes Go.ChangeAt Go.RowKit Go.Fl Go.Sort
attribute [local go_sem] run_store_float run_store_complex call12 call32 run_neg fold_eq fold_ne fold_lt fold_gt abs_eq

theorem t6t {x y : Nat} (w : World) (h : ab x = ab y) : Calls Try.prog 6 #[.float .f64 x, .float .f64 y] w fun e w' => e = .returned (.bool true) ∧ w' = w :=
  (t6 x y w).mono fun _ _ ⟨he, hw⟩ => ⟨by rw [he, h]; simp, hw⟩
theorem t6q {x y : Nat} {w : World} (h : ab x = ab y) (n : Nat) : Calls Try.prog 6 #[.float .f64 x, .float .f64 y] (w.drewN n) fun e w' => e = .returned (.bool true) ∧ ∃ m, w' = (w.drewN n).drewN m :=
  (t6t _ h).mono fun _ _ ⟨he, hw⟩ => ⟨he, 0, hw⟩
/-- Two rows that hold the same. -/
theorem t11 (g1 o1 c1 g2 o2 c2 : Nat) (d : Array Nat) (w : World) (h1 : Reads w g1 o1 d) (h2 : Reads w g2 o2 d) (hn : d.size < 4611686018427387904) :
    Calls Try.prog 11 #[.slice (some ⟨g1, o1, none⟩) d.size c1, .slice (some ⟨g2, o2, none⟩) d.size c2] w fun e w' => e = .returned (.bool true) ∧ Hid (Up w w') := by
  have H1 : Hid (Reads w g1 o1 d) := h1
  have H2 : Hid (Reads w g2 o2 d) := h2
  clear h1 h2
  go_enter Try.func11, Try.ntmps11
  go_wp2
  go_loopw [5, 6] (fun vi _ wr => ∃ i k : Nat, i ≤ d.size ∧ vi = .int .i64 i ∧ wr = w.drewN k) (fun vi _ _ => d.size - (intOf vi).toNat)
  case atStart => exact ⟨0, 0, by omega, rfl, rfl⟩
  case round =>
    obtain ⟨i, k, hi, rfl, hw⟩ := hrel
    rename World => W1
    by_cases hlt : i < d.size
    · obtain ⟨x, hx⟩ : ∃ x, d[i]! = x := ⟨_, rfl⟩
      have c1 : W1.cell? ⟨g1, o1 + i, none⟩ = some (.float .f64 x) := by have := H1.out i hlt; rw [hx] at this; rw [hw]; exact this
      have c2 : W1.cell? ⟨g2, o2 + i, none⟩ = some (.float .f64 x) := by have := H2.out i hlt; rw [hx] at this; rw [hw]; exact this
      have HW : Hid (W1 = w.drewN k) := hw
      clear hx hw
      have hiz : (i : Int) < (d.size : Int) := by omega
      go_wp2_with fail
      go_quiet (first | (go_at_call 6; refine Calls.quiet_of (t6q rfl _)))
      go_wp2
      go_roundw
      case rel => exact ⟨i + 1, k + nq, by omega, by go_num, by rw [HW.out, World.drewN_drewN]⟩
      case measure => simp [intOf]; omega
    · obtain rfl : i = d.size := by omega
      go_wp2
      go_ret
      exact ⟨rfl, by first | exact Up.drewN _ _ | (rw [hw]; exact Up.drewN _ _)⟩

/-- The program's Nth and the reference's, at one place of one row: the same. -/
def NB (W : World) (x : Nat) (c : Int) (e : Ending) (w' : World) : Prop := ∃ y, e = .returned (.tuple #[.float .f64 y, .int .i64 c]) ∧ Hid (ab y = ab x) ∧ Hid (Up W w')
theorem nth_same {d : Array Nat} {k x y : Nat} (hx : x < 2 ^ 64 ∧ key x = kth d k) (hy : y < 2 ^ 64 ∧ key y = kth d k) : ab y = ab x := key_inj hy.1 hx.1 (hy.2.trans hx.2.symm)
/-- Nth at any place: what it hands back, for both to be held against. -/
def At (d : Array Nat) (z : Int) (x : Nat) (c : Int) : Prop := (0 ≤ z ∧ z < d.size ∧ c = 0 ∧ x < 2 ^ 64 ∧ key x = kth d z.toNat) ∨ (¬ (0 ≤ z ∧ z < d.size) ∧ c = 2 ∧ x = 0)
theorem At.same {d : Array Nat} {z : Int} {x y : Nat} {c c' : Int} (h : At d z x c) (h' : At d z y c') : c = c' ∧ ab x = ab y := by
  rcases h with ⟨a1, a2, rfl, a3, a4⟩ | ⟨a1, rfl, rfl⟩ <;> rcases h' with ⟨b1, b2, rfl, b3, b4⟩ | ⟨b1, rfl, rfl⟩
  · exact ⟨rfl, key_inj a3 b3 (a4.trans b4.symm)⟩
  · exact absurd ⟨a1, a2⟩ b1
  · exact absurd ⟨b1, b2⟩ a1
  · exact ⟨rfl, rfl⟩
def AR (W : World) (d : Array Nat) (z : Int) (e : Ending) (w' : World) : Prop := ∃ x c, e = .returned (.tuple #[.float .f64 x, .int .i64 c]) ∧ Hid (At d z x c) ∧ Hid (Up W w')
theorem a9 {W : World} {blk off cap : Nat} {d : Array Nat} (z : Int) (HR : Hid (Reads W blk off d)) (HF : Hid (Fit d)) (hb : d.size * 8 ≤ 140737488355328) : Calls Try.prog 9 #[.slice (some ⟨blk, off, none⟩) d.size cap, .int .i64 z] W (AR W d z) := by
  by_cases h : 0 ≤ z ∧ z < d.size
  · obtain ⟨k, rfl⟩ := Int.eq_ofNat_of_zero_le h.1
    exact (t9 blk off cap k d W HR.out HF.out (by omega) hb).mono fun e w' ⟨x, he, hx, hu⟩ => ⟨x, 0, he, Or.inl ⟨h.1, h.2, rfl, hx.out.1, by simpa using hx.out.2⟩, hu⟩
  · exact (t9bad _ _ _ z W (by omega)).mono fun e w' ⟨he, hw⟩ => ⟨0, 2, he, Or.inr ⟨h, rfl, rfl⟩, by rw [hw]; exact Up.refl _⟩
theorem a10 {W : World} {blk off cap : Nat} {d : Array Nat} (z : Int) (HR : Hid (Reads W blk off d)) (HF : Hid (Fit d)) (hc : d.size ≤ cap) (hb : d.size * 8 ≤ 140737488355328) : Calls Try.prog 10 #[.slice (some ⟨blk, off, none⟩) d.size cap, .int .i64 z] W (AR W d z) := by
  by_cases h : 0 ≤ z ∧ z < d.size
  · obtain ⟨k, rfl⟩ := Int.eq_ofNat_of_zero_le h.1
    exact (t10 blk off cap k d W HR.out HF.out (by omega) hc hb).mono fun e w' ⟨x, he, hx, hu⟩ => ⟨x, 0, he, Or.inl ⟨h.1, h.2, rfl, hx.out.1, by simpa using hx.out.2⟩, hu⟩
  · exact (t10bad _ _ _ z W (by omega)).mono fun e w' ⟨he, hw⟩ => ⟨0, 2, he, Or.inr ⟨h, rfl, rfl⟩, by rw [hw]; exact Up.refl _⟩
/-- A row of whole numbers. -/
def ReadsI (w : World) (blk n : Nat) : Prop := ∀ j, j < n → ∃ z, w.cell? ⟨blk, j, none⟩ = some (.int .i64 z)
theorem newI (W : World) (cs : List Int) (t : TypeId) : ReadsI (W.alloc (.cells (cs.map (Value.int .i64)).toArray t)) W.heap.size cs.length := by
  intro j hj
  refine ⟨cs[j], ?_⟩
  rw [cell_of_row _ _ _ _ _ _ (heap_alloc_last _ _)]
  simp [List.getElem?_eq_getElem hj]
theorem ReadsI.up {w w' : World} {blk n : Nat} (h : ReadsI w blk n) (hu : Up w w') : ReadsI w' blk n := fun j hj => by
  obtain ⟨z, hz⟩ := h j hj
  obtain ⟨c, e, fr, hb, _⟩ := cells_of_cell? hz
  exact ⟨z, by rw [RowKit.Below.cell hu (Array.getElem?_eq_some_iff.1 hb).1]; exact hz⟩
theorem cell_up {w w' : World} {b o : Nat} {v : Value} (h : w.cell? ⟨b, o, none⟩ = some v) (hu : Up w w') : w'.cell? ⟨b, o, none⟩ = some v := by
  obtain ⟨c, e, fr, hb, _⟩ := cells_of_cell? h
  rw [RowKit.Below.cell hu (Array.getElem?_eq_some_iff.1 hb).1]; exact h
/-- What is kept while the statement's calls are made. -/
def Bs (w : World) (gr blk off : Nat) (d : Array Nat) (W : World) : Prop := Reads W gr 0 d ∧ Reads W blk off d ∧ W.cell? ⟨gr, d.size, none⟩ = some (.float .f64 4619567317775286272) ∧ Up w W
theorem Bs.up {w W W' : World} {gr blk off : Nat} {d : Array Nat} (h : Bs w gr blk off d W) (hu : Up W W') : Hid (Bs w gr blk off d W') := by
  obtain ⟨c, e, fr, hb, _⟩ := cells_of_cell? h.2.2.1
  exact ⟨h.1.up hu, h.2.1.up hu, by rw [RowKit.Below.cell hu (Array.getElem?_eq_some_iff.1 hb).1]; exact h.2.2.1, h.2.2.2.trans hu⟩
theorem bsA {w W : World} {gr blk off : Nat} {d : Array Nat} (h : Hid (Bs w gr blk off d W)) : Hid (Reads W gr 0 d) := h.out.1
theorem bsL {w W : World} {gr blk off : Nat} {d : Array Nat} (h : Hid (Bs w gr blk off d W)) : Hid (Reads W blk off d) := h.out.2.1
theorem same_at {W : World} {d : Array Nat} {z : Int} {x y : Nat} {c c' : Int} (h : Hid (At d z x c)) (h' : Hid (At d z y c')) : Calls Try.prog 6 #[.float .f64 x, .float .f64 y] W fun e w' => e = .returned (.bool true) ∧ w' = W := t6t W (h.out.same h'.out).2

set_option maxHeartbeats 4000000 in
theorem t3 (blk off cap : Nat) (d : Array Nat) (n : Int) (w : World) (hR : Reads w blk off d) (hF : Fit d) (hp : 0 < d.size) (hc : d.size ≤ cap) (hb : d.size * 8 + 8 ≤ 140737488355328) :
    Calls Try.prog 3 #[.slice (some ⟨blk, off, none⟩) d.size cap, .int .i64 n] w (KV w (.bool true)) := by
  obtain ⟨i0, hi, hz0, hz1, hz2⟩ := info_parts info23
  have HR : Hid (Reads w blk off d) := hR
  have HF : Hid (Fit d) := hF
  clear hR hF
  have hown : (w.alloc (.cells #[] 23)).ownsRow w.heap.size 23 1 (.slice (some ⟨w.heap.size, 0, none⟩) 0 0) 0 [] := own_empty w
  go_enter Try.func3, Try.ntmps3
  go_wp2_with (at_builtin; refine wpList_append_own _ rfl _ _ 22 rfl w.heap.size 23 i0 (.float .f64 0) 1 8 Try.underlying22 hi hz0 hz1 hz2 rfl (by decide) _ _ _ rfl hown ⟨blk, off, none⟩ d.size cap (d.toList.map fe) rfl (by simp) (reads_news (HR.out.up (Up.alloc _ _))) (one_cells _) (by unfold maxLen; omega) (by omega) (by simp) ?_)
  intro v1 w1 hown1 hgrow _
  have U1 : Hid (Up w w1) := RowKit.Below.grown ((Below.refl _ _).alloc (Nat.le_refl _) _) hgrow (by simp) (fun k hk => by simp [Value.ownBlock] at hk; omega)
  have hown1' : w1.ownsRow w.heap.size 23 1 v1 d.size (d.toList.map fe) := by simpa using hown1
  clear hown1 hgrow hown
  have sz1 : w.heap.size ≤ w1.heap.size := RowKit.Below.size U1.out
  go_wp2_with (at_builtin; refine wpList_append_own _ rfl _ _ 22 rfl w.heap.size 23 i0 (.float .f64 0) 1 8 Try.underlying22 hi hz0 hz1 hz2 rfl (by decide) _ _ _ rfl (hown1'.alloc _) ⟨w1.heap.size, 0, none⟩ 1 1 [.float .f64 4619567317775286272] rfl rfl (cell_new _ _ _) (one_cell _) (by unfold maxLen; omega) (by omega) (by simp; omega) ?_)
  intro v2 w2 hown2 hgrow _
  obtain ⟨R1, R2⟩ := row_push1 (n := 0) hown1' U1.out hown2 hgrow
  obtain ⟨gr, cr, hv2, hgr, hcr, hrr⟩ := own_reads (own_list (l := d.toList ++ [4619567317775286272]) (by simp) (by simpa using R1))
  have zr : (d.toList ++ [4619567317775286272]).toArray.size = d.size + 1 := by simp
  rw [zr] at hv2 hcr
  subst hv2
  have B0 : Hid (Bs w gr blk off d w2) := by
    refine ⟨fun j hj => ?_, HR.out.up R2, ?_, R2⟩
    · have := hrr j (by omega)
      rw [this, getElem!_pos _ j (by omega), getElem!_pos d j hj]
      simp [List.getElem_append_left, hj]
    · have := hrr d.size (by omega)
      rw [Nat.zero_add, getElem!_pos _ d.size (by omega)] at this
      rw [this]
      simp
  clear hown2 hgrow R1 R2 hrr zr hown1' HR U1
  have hnn : d.size < 4611686018427387904 := by omega
  have hb8 : d.size * 8 ≤ 140737488355328 := by omega
  have hrem : ((d.size : Int) + 1 == 0) = false := by rw [beq_eq_false_iff_ne]; omega
  go_wp2_with (first
    | (go_at_call 7; (with_reducible refine (t7 _ _ _ _ _ (bsA B0).out hnn).mono ?_); rintro e w3 ⟨r1, rfl, h1, hu⟩; replace B0 := B0.out.up hu.out; clear hu)
    | (go_at_call 8; (with_reducible refine (t8 _ _ _ _ _ (bsL B0).out hp hnn).mono ?_); rintro e w4 ⟨r2, k2, rfl, rfl, h2⟩; replace B0 := B0.out.up (Up.drewN _ k2))
    | (go_at_call 6; (with_reducible refine (t6t _ (h1.out.trans h2.out.symm)).mono ?_); rintro e w5 ⟨rfl, rfl⟩))
  have I0 : Hid (ReadsI ((w3.drewN k2).alloc (.cells #[.int .i64 n, .int .i64 (n.tmod ((d.size : Int) + 1)), .int .i64 (-1), .int .i64 0, .int .i64 ((d.size : Int) - 1), .int .i64 d.size] 3)) w3.heap.size 6) := newI (w3.drewN k2) [n, n.tmod ((d.size : Int) + 1), -1, 0, (d.size : Int) - 1, d.size] 3
  replace B0 := B0.out.up (Up.alloc _ (.cells #[.int .i64 n, .int .i64 (n.tmod ((d.size : Int) + 1)), .int .i64 (-1), .int .i64 0, .int .i64 ((d.size : Int) - 1), .int .i64 d.size] 3))
  obtain ⟨gi, hgi⟩ : ∃ gi, w3.heap.size = gi := ⟨_, rfl⟩
  rw [hgi] at I0 ⊢
  clear hgi h1 h2
  go_loopw [8, 9, 10, 11, 12] (fun vi _ _ _ _ wr => ∃ i : Nat, i ≤ 6 ∧ vi = .int .i64 i ∧ Hid (Bs w gr blk off d wr) ∧ Hid (ReadsI wr gi 6)) (fun vi _ _ _ _ _ => 6 - (intOf vi).toNat)
  case atStart => exact ⟨0, by omega, rfl, B0, I0⟩
  case round =>
    clear B0 I0
    obtain ⟨i, hi6, rfl, B0, I0⟩ := hrel
    rename World => W1
    by_cases hlt : i < 6
    · obtain ⟨z, hz⟩ := I0.out i hlt
      have hiz : (i : Int) < 6 := by omega
      go_wp2_with (first
        | (go_at_call 9; (with_reducible refine (a9 z (bsA B0) HF hb8).mono ?_); rintro e w6 ⟨x, c, rfl, hx, hu⟩; replace B0 := B0.out.up hu.out; replace I0 : Hid (ReadsI w6 gi 6) := I0.out.up hu.out; have hz2 := cell_up hz hu.out; clear hz hu)
        | (go_at_call 10; (with_reducible refine (a10 z (bsL B0) HF hc hb8).mono ?_); rintro e w7 ⟨y, c', rfl, hy, hu⟩; replace B0 := B0.out.up hu.out; replace I0 : Hid (ReadsI w7 gi 6) := I0.out.up hu.out; have hcc := (hx.out.same hy.out).1; subst hcc; clear hu hz2)
        | (go_at_call 6; (with_reducible refine (same_at hx hy).mono ?_); rintro e w8 ⟨rfl, rfl⟩))
      go_roundw
      case rel => exact ⟨i + 1, by omega, by go_num, B0, I0⟩
      case measure => simp [intOf]; omega
    · obtain rfl : i = 6 := by omega
      have hz7 := B0.out.2.2.1
      have hzz : (d.size : Int) < (d.size : Int) + 1 := by omega
      go_wp2_with (first
        | (go_at_call 11; (with_reducible refine (t11 _ _ _ _ _ _ _ _ (bsA B0).out (bsL B0).out hnn).mono ?_); rintro e w8 ⟨rfl, hu⟩; replace B0 := B0.out.up hu.out; replace hz7 := cell_up hz7 hu.out; clear hu)
        | (go_at_call 13; (with_reducible refine (t13 _).mono ?_); rintro e w9 ⟨rfl, hu⟩; replace B0 := B0.out.up hu.out; clear hu))
      go_ret
      exact ⟨rfl, B0.out.2.2.2⟩
end Go.Proofs.Ytfifdngcdknbbaa

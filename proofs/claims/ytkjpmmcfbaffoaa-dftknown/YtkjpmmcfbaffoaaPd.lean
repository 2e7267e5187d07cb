/- Turned: of 8, of 6. -/
import Derived.Test.YtkjpmmcfbaffoaaPc
namespace Go.Proofs.Ytkjpmmcfbaffoaa
open Go.ChangeShapes Go.WideShapes Go.ChangeAt Go.RowKit Go.Fl Ieee

/-- A row of whole numbers of one's own. -/
def IRow (b : Nat) (w : World) (v : Value) (d : List Int) : Prop := w.ownsRow b 3 1 v d.length (d.map (Value.int .i64))
theorem info3 : (Try.prog.info? 3).map (fun i => (i.zero, i.size, i.bytes)) = some (some (.int .i64 0), 1, 8) := by kernel_rfl
theorem IRow.up {b : Nat} {w w' : World} {v : Value} {d : List Int} (h : IRow b w v d) (hu : Up w w') : IRow b w' v d := owns_up h hu
theorem IRow.len {b g n cap : Nat} {w : World} {d : List Int} (h : IRow b w (.slice (some ⟨g, 0, none⟩) n cap) d) : d.length = n := by
  obtain ⟨p, cap', he, _⟩ := own_form h
  simp only [Value.slice.injEq] at he
  exact he.2.1.symm
theorem IRow.cell {b g n cap : Nat} {w : World} {d : List Int} (h : IRow b w (.slice (some ⟨g, 0, none⟩) n cap) d) {i : Nat} (hi : i < d.length) : w.cell? ⟨g, i, none⟩ = some (.int .i64 d[i]!) := by
  obtain ⟨p, cap', he, _⟩ := own_form h
  simp only [Value.slice.injEq] at he
  obtain ⟨rfl, rfl, rfl⟩ := he
  rw [World.ownsRow.cellAt h i (by omega)]
  rw [List.getElem?_map, List.getElem?_eq_getElem hi, getElem!_pos d i hi]
  rfl
theorem IRow.put {b g n cap : Nat} {w : World} {d : List Int} (h : IRow b w (.slice (some ⟨g, 0, none⟩) n cap) d) (k : Nat) (r : Int) :
    IRow b (w.setCell ⟨g, k, none⟩ (.int .i64 r)) (.slice (some ⟨g, 0, none⟩) n cap) (d.set k r) ∧ But g w (w.setCell ⟨g, k, none⟩ (.int .i64 r)) := by
  have hl := h.len
  subst hl
  obtain ⟨s1, s2⟩ := World.ownsRow.stored h k (.int .i64 r)
  refine ⟨?_, s2⟩
  unfold IRow
  rw [List.length_set, List.map_set]
  exact s1
theorem IRow.frz {b g n cap : Nat} {w : World} {d : List Int} (h : IRow b w (.slice (some ⟨g, 0, none⟩) n cap) d) (i : Nat) : w.frozen? ⟨g, i, none⟩ = false := by
  have hl := h.len
  subst hl
  exact World.ownsRow.frozenAt h i
theorem upon_makeI {o : Oper} {a : Act} {next : Act → World → Prop} {Q : Exit → Act → World → Prop} {w : World} {F : Value → World → Result Next}
    (hk : ∀ g w', Hid (w.heap.size = g ∧ IRow g w' (.slice (some ⟨g, 0, none⟩) 8 8) [0, 0, 0, 0, 0, 0, 0, 0] ∧ Up w w') → o.upon Try.prog a next Q (F (.slice (some ⟨g, 0, none⟩) 8 8) w')) :
    o.upon Try.prog a next Q (((Instr.makeSlice 28 (.int .i64 8) (.int .i64 8)).run Try.prog w).andThen F) := by
  obtain ⟨i0, hi, hz0, hz1, hz2⟩ := info_parts info3
  obtain ⟨w', e, h1, h2⟩ := run_make_full (P := Try.prog) w w.heap.size 28 3 i0 (.int .i64 0) 1 Try.underlying28 hi hz0 hz1 .i64 .i64 8 (by rw [hz2]; omega) (by unfold maxLen; omega) (Nat.le_refl _)
  rw [show ((8 : Nat) : Int) = (8 : Int) from rfl] at e
  rw [e]
  have e8 : (madeCells (Value.int .i64 0).cells (8 * 1)).toList = List.replicate 8 (.int .i64 0) := by
    rw [Nat.mul_one]; exact toList_madeCells_one _ _
  rw [e8] at h1
  exact hk _ _ ⟨rfl, h1, Below.grown (Below.refl _ _) h2 (Nat.le_refl _) (fun j hj => by cases hj)⟩
theorem pow8 : powB 8 = true := by decide
theorem pow6 : powB 6 = false := by decide
theorem t10six (w : World) : Calls Try.prog 10 #[.int .i64 6] w fun e w' => e = .returned (.bool false) ∧ w' = w := t10k (n := 6) pow6 w (by omega)
theorem t10eight (w : World) : Calls Try.prog 10 #[.int .i64 8] w fun e w' => e = .returned (.bool true) ∧ w' = w := t10k (n := 8) pow8 w (by omega)
theorem t7six (w : World) : Calls Try.prog 7 #[.int .i64 6] w fun e w' => e = .returned (.slice none 0 0) ∧ w' = w := by
  go_enter Try.func7, Try.ntmps7
  go_wp2_with (go_at_call 10; (with_reducible refine (t10six _).mono ?_); rintro e w' ⟨rfl, rfl⟩)
  go_ret
  exact ⟨rfl, rfl⟩
/-- Up to k it is filled. -/
def T8 (k : Nat) : List Int := ([0, 4, 2, 6, 1, 5, 3, 7] : List Int).take k ++ List.replicate (8 - k) 0
def TI (w wr : World) (g k : Nat) : Prop := w.heap.size ≤ g ∧ IRow w.heap.size wr (.slice (some ⟨g, 0, none⟩) 8 8) (T8 k) ∧ Up w wr
theorem TI.cell {w wr : World} {g k : Nat} (h : TI w wr g k) (hk : k < 8) : (∃ v, wr.cell? ⟨g, k, none⟩ = some (.int .i64 v)) ∧ wr.frozen? ⟨g, k, none⟩ = false := by
  refine ⟨⟨_, h.2.1.cell ?_⟩, h.2.1.frz k⟩
  rw [h.2.1.len]; exact hk
theorem TI.put {w wr : World} {g k : Nat} {r : Int} (h : TI w wr g k) (e : (T8 k).set k r = T8 (k + 1)) : TI w (wr.setCell ⟨g, k, none⟩ (.int .i64 r)) g (k + 1) := by
  obtain ⟨h1, h2, h3⟩ := h
  obtain ⟨p1, p2⟩ := h2.put k r
  rw [e] at p1
  exact ⟨h1, p1, p2.up h3 h1⟩
set_option maxHeartbeats 1000000 in
theorem t7eight (w : World) : Calls Try.prog 7 #[.int .i64 8] w fun e w' => ∃ g, e = .returned (.slice (some ⟨g, 0, none⟩) 8 8) ∧ Hid (TI w w' g 8) := by
  go_enter Try.func7, Try.ntmps7
  go_wp2_with (first
    | (go_at_call 10; (with_reducible refine (t10eight _).mono ?_); rintro e w' ⟨rfl, rfl⟩)
    | (go_at_call 16; refine (t16 _).mono ?_; rintro e w' ⟨rfl, rfl⟩)
    | ((with_reducible refine upon_makeI ?_); intro g w1 HM))
  have HS : Hid (TI w' w1 g 0) := ⟨by have := HM.out.1; omega, HM.out.1 ▸ HM.out.2.1, HM.out.2.2⟩
  clear HM
  go_loopw [21] (fun vi wr => ∃ k : Nat, k ≤ 8 ∧ vi = .int .i64 k ∧ Hid (TI w' wr g k)) (fun vi _ => 8 - (intOf vi).toNat)
  case atStart => exact ⟨0, by omega, rfl, HS⟩
  case round =>
    clear HS
    obtain ⟨k, hk, rfl, HS⟩ := hrel
    by_cases hlt : k < 8
    · obtain ⟨⟨v, hc⟩, hf⟩ := HS.out.cell hlt
      have : k = 0 ∨ k = 1 ∨ k = 2 ∨ k = 3 ∨ k = 4 ∨ k = 5 ∨ k = 6 ∨ k = 7 := by omega
      clear hk hlt
      rcases this with rfl | rfl | rfl | rfl | rfl | rfl | rfl | rfl
      · go_wp2_with (go_at_call 17; refine (t17_0 _).mono ?_; rintro e w2 ⟨rfl, rfl⟩)
        go_roundw
        case rel => exact ⟨0+1, by omega, by go_num, HS.out.put (by rfl)⟩
        case measure => simp [intOf]
      · go_wp2_with (go_at_call 17; refine (t17_1 _).mono ?_; rintro e w2 ⟨rfl, rfl⟩)
        go_roundw
        case rel => exact ⟨1+1, by omega, by go_num, HS.out.put (by rfl)⟩
        case measure => simp [intOf]
      · go_wp2_with (go_at_call 17; refine (t17_2 _).mono ?_; rintro e w2 ⟨rfl, rfl⟩)
        go_roundw
        case rel => exact ⟨2+1, by omega, by go_num, HS.out.put (by rfl)⟩
        case measure => simp [intOf]
      · go_wp2_with (go_at_call 17; refine (t17_3 _).mono ?_; rintro e w2 ⟨rfl, rfl⟩)
        go_roundw
        case rel => exact ⟨3+1, by omega, by go_num, HS.out.put (by rfl)⟩
        case measure => simp [intOf]
      · go_wp2_with (go_at_call 17; refine (t17_4 _).mono ?_; rintro e w2 ⟨rfl, rfl⟩)
        go_roundw
        case rel => exact ⟨4+1, by omega, by go_num, HS.out.put (by rfl)⟩
        case measure => simp [intOf]
      · go_wp2_with (go_at_call 17; refine (t17_5 _).mono ?_; rintro e w2 ⟨rfl, rfl⟩)
        go_roundw
        case rel => exact ⟨5+1, by omega, by go_num, HS.out.put (by rfl)⟩
        case measure => simp [intOf]
      · go_wp2_with (go_at_call 17; refine (t17_6 _).mono ?_; rintro e w2 ⟨rfl, rfl⟩)
        go_roundw
        case rel => exact ⟨6+1, by omega, by go_num, HS.out.put (by rfl)⟩
        case measure => simp [intOf]
      · go_wp2_with (go_at_call 17; refine (t17_7 _).mono ?_; rintro e w2 ⟨rfl, rfl⟩)
        go_roundw
        case rel => exact ⟨7+1, by omega, by go_num, HS.out.put (by rfl)⟩
        case measure => simp [intOf]
    · obtain rfl : k = 8 := by omega
      go_wp2
      go_ret
      exact ⟨g, rfl, HS⟩
end Go.Proofs.Ytkjpmmcfbaffoaa

/- New: the walk. -/
import Derived.Test.YtjklaemhfhakhaaDc
import Derived.Deep.DeepCutAuto
namespace Go.Proofs.Ytjklaemhfhakhaa
open Go.ChangeShapes Go.WideShapes Go.ChangeAt Go.RowKit

theorem info70 : (Try.prog.info? 70).map (fun i => (i.zero, i.size, i.bytes)) = some (some (.agg #[.slice none 0 0, .int .i64 0]), 2, 32) := by kernel_rfl
theorem made70 (n : Nat) : ∃ A : Array Value, (∀ i, i < n → A[i * 2]? = some (.slice none 0 0) ∧ A[i * 2 + 1]? = some (.int .i64 0)) ∧ (n ≤ 256 → ∀ w, (Instr.makeSlice 62 (.int .i64 n) (.int .i64 n)).run Try.prog w = .ok (.slice (some ⟨w.heap.size, 0, none⟩) n n) (w.alloc (.cells A 70))) := by
  obtain ⟨i0, hi, hz0, hz1, hz2⟩ := info_parts info70
  refine ⟨madeCells (Value.agg #[.slice none 0 0, .int .i64 0]).cells (n * 2), fun i hi => ?_, fun hn w => ?_⟩
  · have e : (Value.agg #[.slice none 0 0, .int .i64 0]).cells = #[.slice none 0 0, .int .i64 0] := rfl
    rw [e]
    unfold madeCells
    constructor
    · simp [show i * 2 < n * 2 by omega]
    · simp [show i * 2 + 1 < n * 2 by omega, show (i * 2 + 1) % 2 = 1 by omega]
  · have := run_make (P := Try.prog) w 62 70 i0 _ Try.underlying62 hi hz0 .i64 .i64 n n (by omega) (by omega) (by rw [hz2]; omega) (by omega)
    rw [hz1] at this
    simpa using this
theorem NW.start {w : World} {n : Nat} {T : Nat → Tk} {A : Array Value} (h : ∀ i, i < n → A[i * 2]? = some (.slice none 0 0) ∧ A[i * 2 + 1]? = some (.int .i64 0)) : NW w n 0 (w.heap.size + 1) w.heap.size (fun _ => 0) T ((w.alloc (.cells A 70)).alloc (.cells #[.int .i64 0, .slice (some ⟨w.heap.size, 0, none⟩) n n] 64)) := by
  have s1 : (w.alloc (.cells A 70)).heap.size = w.heap.size + 1 := by simp
  have hp := heap_alloc_last (w.alloc (.cells A 70)) (.cells #[.int .i64 0, .slice (some ⟨w.heap.size, 0, none⟩) n n] 64)
  rw [s1] at hp
  have ht : ((w.alloc (.cells A 70)).alloc (.cells #[.int .i64 0, .slice (some ⟨w.heap.size, 0, none⟩) n n] 64)).heap[w.heap.size]? = some (.cells A 70 (0, 0)) := kept2 (heap_alloc_last w _) (Up.alloc _ _)
  refine ⟨(row_cell hp 0).1, (row_cell hp 1).1, fun i hi => by omega, fun i hi => ?_, fun i hi => ?_, fun i hi => by omega, fun j => (row_cell hp j).2, fun j => (row_cell ht j).2, fun i hi => by omega, (Array.getElem?_eq_some_iff.1 hp).1, (Array.getElem?_eq_some_iff.1 ht).1, by omega, fun i hi => by omega, fun i j hi => by omega, ⟨by omega, Nat.le_refl _, fun i hi => by omega⟩, (Up.alloc _ _).trans (Up.alloc _ _)⟩
  · rw [(row_cell ht (i * 2)).1, (h i hi).1]; rfl
  · rw [(row_cell ht (i * 2 + 1)).1, (h i hi).2]
theorem t10long {w : World} {p : Option Addr} {n cap : Nat} (h : 256 < n) : Calls Try.prog 10 #[.slice p n cap] w (VU w (.tuple #[.pointer none, .int .i64 3])) := by
  have z : (256 : Int) < (n : Int) := by omega
  go_enter Try.func10, Try.ntmps10
  go_wp2
  go_ret2
  exact ⟨rfl, Up.refl _⟩
/-- What New leaves: the first k may be; if that are all, a plan; else the error. -/
def NewR (w : World) (n : Nat) (T : Nat → Tk) (e : Ending) (w' : World) : Prop :=
  ((∀ i, i < n → MayT (T i).e (T i).l) ∧ ∃ L, e = .returned (.tuple #[.pointer (some ⟨L.bp, 0, none⟩), .int .i64 0]) ∧ Hid (PW w' L n (newP T)) ∧ Hid (L.Ok n) ∧ Hid (∀ b, L.Own n b → w.heap.size ≤ b) ∧ Hid (Up w w')) ∨
  (¬ (∀ i, i < n → MayT (T i).e (T i).l) ∧ e = .returned (.tuple #[.pointer none, .int .i64 240]) ∧ Hid (Up w w'))
set_option maxRecDepth 20000 in
set_option maxHeartbeats 4000000 in
theorem t10 {w : World} {p : Option Addr} {n cap : Nat} {T : Nat → Tk} (h : TL w p n cap T) (hn : n ≤ 256) : Calls Try.prog 10 #[.slice p n cap] w (NewR w n T) := by
  have HTL : Hid (TL w p n cap T) := h
  obtain ⟨A, hA, hM⟩ := made70 n
  replace hM := hM hn
  have HN : Hid (NW w n 0 (w.heap.size + 1) w.heap.size (fun _ => 0) T ((w.alloc (.cells A 70)).alloc (.cells #[.int .i64 0, .slice (some ⟨w.heap.size, 0, none⟩) n n] 64))) := NW.start hA
  have hn2 : (n : Int) ≤ 256 := by omega
  clear h hA
  go_enter Try.func10, Try.ntmps10
  go_wp2_with fail
  clear hM
  generalize (w.alloc (.cells A 70)).alloc (.cells #[.int .i64 0, .slice (some ⟨w.heap.size, 0, none⟩) n n] 64) = W0 at *
  generalize w.heap.size + 1 = bp at *
  have HNN : Hid (n ≤ 256) := hn
  clear hn2 hn
  generalize w.heap.size = bt at HN ⊢
  go_loopw [5, 6, 17] (fun _ _ v17 wr => ∃ (k : Nat) (br : Nat → Nat), k ≤ n ∧ v17 = .int .i64 k ∧ Hid (NW w n k bp bt br T wr) ∧ Hid (∀ i, i < k → MayT (T i).e (T i).l)) (fun _ _ v17 _ => n - (intOf v17).toNat)
  case atStart => exact ⟨0, fun _ => 0, by omega, rfl, HN, fun i hi => by omega⟩
  case round =>
    clear HN
    obtain ⟨k, br, hk, rfl, HN, HMA⟩ := hrel
    rename World => wr
    by_cases hlt : k < n
    · have z1 : (k : Int) < (n : Int) := by omega
      have z2 : (0 : Int) ≤ (k : Int) := by omega
      obtain ⟨gb, o, hpp, hr⟩ := HTL.out.rd (by omega)
      have HR : Hid _ := hr
      obtain ⟨c0, c1, c2⟩ := (hr k hlt).up HN.out.up
      generalize hT : T k = tk at *
      obtain ⟨e, l, r⟩ := tk
      have HTK : Hid (T k = ⟨e, l, r⟩) := hT
      simp only at c0 c1 c2
      subst hpp
      clear hr hT
      have lg := World.block_lt_of_cell? wr _ c0
      simp only at lg
      have C25 : ∀ w, Hid (Calls Try.prog 25 #[.agg #[.int .i64 e, .int .i64 l, .int .i64 r]] w (VU w (.bool (decide (1 ≤ l) && decide (l ≤ e) && decide (e ≤ 1099511627776))))) := fun w => t25 e l r w
      obtain ⟨b, hb⟩ : ∃ b, (decide (1 ≤ l) && decide (l ≤ e) && decide (e ≤ 1099511627776)) = b := ⟨_, rfl⟩
      have HB : Hid (b = true ↔ MayT e l) := by show _ ↔ _; rw [← hb]; exact may_dec e l
      rw [hb] at C25
      have HNa : Hid (NW w n k bp bt br T (wr.alloc (.cells #[.int .i64 e, .int .i64 l, .int .i64 r] 26))) := HN.out.upp (Up.alloc _ _)
      have HTa : Hid (TkAt (wr.alloc (.cells #[.int .i64 e, .int .i64 l, .int .i64 r] 26)) wr.heap.size 0 ⟨e, l, r⟩) := by
        have e0 := heap_alloc_last wr (.cells #[.int .i64 e, .int .i64 l, .int .i64 r] 26)
        exact ⟨(row_cell e0 0).1, by rw [Nat.zero_add]; exact (row_cell e0 1).1, by rw [Nat.zero_add]; exact (row_cell e0 2).1⟩
      clear hb
      cases b
      · go_wp2_with (go_at_call 25; (with_reducible refine ((C25 _).out).mono ?_); rintro e w1 ⟨rfl, HU1⟩)
        go_ret2
        refine Or.inr ⟨fun q => ?_, rfl, HNa.out.up.trans HU1.out⟩
        have := q k hlt
        rw [HTK.out] at this
        exact Bool.false_ne_true (HB.out.2 this)
      · go_upto_region 9 with (go_at_call 25; (with_reducible refine ((C25 _).out).mono ?_); rintro e w1 ⟨rfl, HU1⟩; (have HN1 : Hid (NW w n k bp bt br T w1) := HNa.out.upp HU1.out))
        have HT1 : Hid (TkAt w1 wr.heap.size 0 ⟨e, l, r⟩) := HTa.out.up HU1.out
        obtain ⟨d0, d1, d2⟩ := HT1.out
        have d3 := HN1.out.p1
        obtain ⟨vv, d4⟩ := Option.isSome_iff_exists.1 (HN1.out.cs k hlt)
        have d5 := HN1.out.ft (k * 2)
        have d6 := HN1.out.lp
        have d7 := HN1.out.lt
        have d8 : wr.heap.size < w1.heap.size := World.block_lt_of_cell? w1 ⟨wr.heap.size, 0, none⟩ d0
        simp only [Nat.zero_add] at d0 d1 d2
        clear c0 c1 c2 lg C25 HNa HTa
        go_region
        go_wp2_with fail
        have hs : (w1.alloc (.cells #[.int .i64 0, .int .i64 e, .int .i64 l, .int .i64 r] 67)).setCell ⟨bt, k * 2, none⟩ (.slice (some ⟨w1.heap.size, 0, none⟩) 1 1) = (w1.setCell ⟨bt, k * 2, none⟩ (.slice (some ⟨w1.heap.size, 0, none⟩) 1 1)).alloc (.cells #[.int .i64 0, .int .i64 e, .int .i64 l, .int .i64 r] 67) := by go_simp
        have HN2 : NW w n (k + 1) bp bt (upd br k w1.heap.size) T ((w1.setCell ⟨bt, k * 2, none⟩ (.slice (some ⟨w1.heap.size, 0, none⟩) 1 1)).alloc (.cells #[.int .i64 0, .int .i64 e, .int .i64 l, .int .i64 r] 67)) := by
          rw [← hs]
          refine NW.next (HN1.out.upp (Up.alloc _ _)) hlt ?_ HN1.out.up.size ⟨by omega, by omega, fun i hi => by have := HN1.out.lr hi; omega⟩
          rw [HTK.out]
          exact heap_alloc_last _ _
        go_roundw
        case rel => exact ⟨k + 1, upd br k w1.heap.size, by omega, by go_num, HN2.upp (Up.drew _), fun i hi => by
          rcases Nat.lt_succ_iff_lt_or_eq.1 hi with q | rfl
          · exact HMA.out i q
          · rw [HTK.out]; exact HB.out.1 trivial⟩
        case measure => simp [intOf]; omega
    · obtain rfl : k = n := by omega
      go_wp2
      go_ret2
      obtain ⟨q1, q2, q3⟩ := HN.out.pw
      exact Or.inl ⟨HMA.out, _, rfl, q1, q2, q3, HN.out.up⟩
end Go.Proofs.Ytjklaemhfhakhaa

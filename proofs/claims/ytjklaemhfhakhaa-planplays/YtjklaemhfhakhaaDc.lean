/- New. -/
import Derived.Test.YtjklaemhfhakhaaDb
import Derived.Deep.DeepCutAuto
namespace Go.Proofs.Ytjklaemhfhakhaa
open Go.ChangeShapes Go.WideShapes Go.ChangeAt Go.RowKit

/-- A task. -/
structure Tk where
  e : Int
  l : Int
  r : Int
def newP (T : Nat → Tk) : Pl := ⟨0, fun i => ⟨⟨0, (T i).e, (T i).l, (T i).r⟩, [], 0⟩⟩
structure TkAt (w : World) (g o : Nat) (t : Tk) : Prop where
  c0 : w.cell? ⟨g, o, none⟩ = some (.int .i64 t.e)
  c1 : w.cell? ⟨g, o + 1, none⟩ = some (.int .i64 t.l)
  c2 : w.cell? ⟨g, o + 2, none⟩ = some (.int .i64 t.r)
theorem TkAt.up {w w' : World} {g o : Nat} {t : Tk} (h : TkAt w g o t) (hu : Up w w') : TkAt w' g o t := ⟨cell_up h.c0 hu, cell_up h.c1 hu, cell_up h.c2 hu⟩
/-- Tasks that can be read. -/
structure TL (w : World) (p : Option Addr) (n cap : Nat) (T : Nat → Tk) : Prop where
  cap : n ≤ cap
  rd : 0 < n → ∃ b o, p = some ⟨b, o, none⟩ ∧ ∀ i, i < n → TkAt w b (o + i * 3) (T i)
theorem TL.up {w w' : World} {p : Option Addr} {n cap : Nat} {T : Nat → Tk} (h : TL w p n cap T) (hu : Up w w') : TL w' p n cap T :=
  ⟨h.cap, fun h0 => by
    obtain ⟨b, o, e, k⟩ := h.rd h0
    exact ⟨b, o, e, fun i hi => (k i hi).up hu⟩⟩
/-- What New keeps: k tasks have their rows. -/
structure NW (w : World) (n k bp bt : Nat) (br : Nat → Nat) (T : Nat → Tk) (wr : World) : Prop where
  p0 : wr.cell? ⟨bp, 0, none⟩ = some (.int .i64 0)
  p1 : wr.cell? ⟨bp, 1, none⟩ = some (.slice (some ⟨bt, 0, none⟩) n n)
  cr : ∀ i, i < k → wr.cell? ⟨bt, i * 2, none⟩ = some (.slice (some ⟨br i, 0, none⟩) 1 1)
  cs : ∀ i, i < n → (wr.cell? ⟨bt, i * 2, none⟩).isSome = true
  cd : ∀ i, i < n → wr.cell? ⟨bt, i * 2 + 1, none⟩ = some (.int .i64 0)
  rw' : ∀ i, i < k → RowAt wr (br i) 0 ⟨0, (T i).e, (T i).l, (T i).r⟩
  fp : ∀ j, wr.frozen? ⟨bp, j, none⟩ = false
  ft : ∀ j, wr.frozen? ⟨bt, j, none⟩ = false
  fr : ∀ i, i < k → ∀ j, wr.frozen? ⟨br i, j, none⟩ = false
  lp : bp < wr.heap.size
  lt : bt < wr.heap.size
  pt : bp ≠ bt
  rp : ∀ i, i < k → br i ≠ bp ∧ br i ≠ bt
  rr : ∀ i j, i < k → j < k → i ≠ j → br i ≠ br j
  ge : w.heap.size ≤ bp ∧ w.heap.size ≤ bt ∧ ∀ i, i < k → w.heap.size ≤ br i
  up : Up w wr
theorem NW.lr {w : World} {n k bp bt : Nat} {br : Nat → Nat} {T : Nat → Tk} {wr : World} (h : NW w n k bp bt br T wr) {i : Nat} (hi : i < k) : br i < wr.heap.size := World.block_lt_of_cell? wr _ (h.rw' i hi).nx
theorem RowAt.up {w w' : World} {g o : Nat} {x : Rw} (h : RowAt w g o x) (hu : Up w w') : RowAt w' g o x := h.kp (F := fun _ => True) (Kp.of_up hu) trivial
theorem frozen_up' {w w' : World} {g j : Nat} (h : w.frozen? ⟨g, j, none⟩ = false) (hl : g < w.heap.size) (hu : Up w w') : w'.frozen? ⟨g, j, none⟩ = false := (World.frozen?_of_block (hu.block g hl)).trans h
theorem NW.upp {w : World} {n k bp bt : Nat} {br : Nat → Nat} {T : Nat → Tk} {wr w' : World} (h : NW w n k bp bt br T wr) (hu : Up wr w') : NW w n k bp bt br T w' := by
  refine ⟨cell_up h.p0 hu, cell_up h.p1 hu, fun i hi => cell_up (h.cr i hi) hu, fun i hi => ?_, fun i hi => cell_up (h.cd i hi) hu, fun i hi => (h.rw' i hi).up hu, fun j => frozen_up' (h.fp j) h.lp hu, fun j => frozen_up' (h.ft j) h.lt hu, fun i hi j => frozen_up' (h.fr i hi j) (h.lr hi) hu, Nat.lt_of_lt_of_le h.lp hu.size, Nat.lt_of_lt_of_le h.lt hu.size, h.pt, h.rp, h.rr, h.ge, h.up.trans hu⟩
  obtain ⟨v, hv⟩ := Option.isSome_iff_exists.1 (h.cs i hi)
  rw [cell_up hv hu]; rfl
/-- One task has its row. -/
theorem NW.next {w : World} {n k bp bt : Nat} {br : Nat → Nat} {T : Nat → Tk} {wr : World} (h : NW w n k bp bt br T wr) (hk : k < n) {g : Nat} (hg : wr.heap[g]? = some (.cells #[.int .i64 0, .int .i64 (T k).e, .int .i64 (T k).l, .int .i64 (T k).r] 67 (0, 0))) (hw : w.heap.size ≤ g) (hf : g ≠ bp ∧ g ≠ bt ∧ ∀ i, i < k → br i ≠ g) :
    NW w n (k + 1) bp bt (upd br k g) T (wr.setCell ⟨bt, k * 2, none⟩ (.slice (some ⟨g, 0, none⟩) 1 1)) := by
  have u1 : ∀ i, i < k → upd br k g i = br i := fun i hi => upd_ne _ _ (by omega)
  have hkp : Kp (fun b => b ≠ bt) wr (wr.setCell ⟨bt, k * 2, none⟩ (.slice (some ⟨g, 0, none⟩) 1 1)) := Kp.set _ _ (fun q => q rfl) _
  have lg := (Array.getElem?_eq_some_iff.1 hg).1
  refine ⟨cell_other h.p0 (Or.inl h.pt), cell_other h.p1 (Or.inl h.pt), fun i hi => ?_, fun i hi => some_set (h.cs i hi), fun i hi => cell_other (h.cd i hi) (Or.inr (by show i * 2 + 1 ≠ k * 2; omega)), fun i hi => ?_, fun j => by rw [World.frozen?_setCell]; exact h.fp j, fun j => by rw [World.frozen?_setCell]; exact h.ft j, fun i hi j => ?_, Nat.lt_of_lt_of_le h.lp hkp.size, Nat.lt_of_lt_of_le h.lt hkp.size, h.pt, fun i hi => ?_, fun i j hi hj hne => ?_, ⟨h.ge.1, h.ge.2.1, fun i hi => ?_⟩, ?_⟩
  · by_cases e : i = k
    · subst e
      rw [upd_at]
      obtain ⟨v, hv⟩ := Option.isSome_iff_exists.1 (h.cs i hk)
      exact World.cell?_setCell_same _ _ _ hv
    · rw [u1 i (by omega)]
      exact cell_other (h.cr i (by omega)) (Or.inr (by show i * 2 ≠ k * 2; omega))
  · by_cases e : i = k
    · subst e
      rw [upd_at]
      exact RowAt.kp ⟨(row_cell hg 0).1, (row_cell hg 1).1, (row_cell hg 2).1, (row_cell hg 3).1⟩ hkp hf.2.1
    · rw [u1 i (by omega)]
      exact (h.rw' i (by omega)).kp hkp (h.rp i (by omega)).2
  · rw [World.frozen?_setCell]
    by_cases e : i = k
    · subst e; rw [upd_at]; exact (row_cell hg j).2
    · rw [u1 i (by omega)]; exact h.fr i (by omega) j
  · by_cases e : i = k
    · subst e; rw [upd_at]; exact ⟨hf.1, hf.2.1⟩
    · rw [u1 i (by omega)]; exact h.rp i (by omega)
  · by_cases e : i = k
    · subst e
      rw [upd_at, u1 j (by omega)]
      exact fun q => hf.2.2 j (by omega) q.symm
    · by_cases e2 : j = k
      · subst e2
        rw [upd_at, u1 i (by omega)]
        exact hf.2.2 i (by omega)
      · rw [u1 i (by omega), u1 j (by omega)]
        exact h.rr i j (by omega) (by omega) hne
  · by_cases e : i = k
    · subst e; rw [upd_at]; exact hw
    · rw [u1 i (by omega)]; exact h.ge.2.2 i (by omega)
  · exact h.up.setCell h.ge.2.1 _
/-- All have. -/
theorem NW.pw {w : World} {n bp bt : Nat} {br : Nat → Nat} {T : Nat → Tk} {wr : World} (h : NW w n n bp bt br T wr) : PW wr ⟨bp, bt, br, fun _ => 0, fun _ => 1⟩ n (newP T) ∧ Ly.Ok ⟨bp, bt, br, fun _ => 0, fun _ => 1⟩ n ∧ (∀ b, Ly.Own ⟨bp, bt, br, fun _ => 0, fun _ => 1⟩ n b → w.heap.size ≤ b) := by
  refine ⟨⟨h.p0, h.p1, h.cr, h.cd, fun i hi k x hx => ?_, fun i hi => Nat.le_refl _, fun i hi k hk => ?_, h.lp, h.lt, h.fp, h.ft, h.fr⟩, ⟨h.pt, fun i hi => (h.rp i hi).1, fun i hi => (h.rp i hi).2, h.rr⟩, fun b hb => ?_⟩
  · cases k with
    | zero =>
      simp only [List.getElem?_cons_zero, Option.some.injEq] at hx
      subst hx
      exact h.rw' i hi
    | succ k => cases hx
  · obtain ⟨a, b, c, d⟩ := h.rw' i hi
    simp only [Nat.zero_add] at a b c d ⊢
    have : k < 4 := by simpa using hk
    rcases (show k = 0 ∨ k = 1 ∨ k = 2 ∨ k = 3 by omega) with rfl | rfl | rfl | rfl
    · rw [a]; rfl
    · rw [b]; rfl
    · rw [c]; rfl
    · rw [d]; rfl
  · rcases hb with rfl | rfl | ⟨i, hi, rfl⟩
    · exact h.ge.1
    · exact h.ge.2.1
    · exact h.ge.2.2 i hi
end Go.Proofs.Ytjklaemhfhakhaa
/- New: the walk. -/
namespace Go.Proofs.Ytjklaemhfhakhaa
open Go.ChangeShapes Go.WideShapes Go.ChangeAt Go.RowKit

theorem info70 : (Try.prog.info? 70).map (fun i => (i.zero, i.size, i.bytes)) = some (some (.agg #[.slice none 0 0, .int .i64 0]), 2, 32) := by kernel_rfl
theorem made70 (n : Nat) : ∃ A : Array Value, (∀ i, i < n → A[i * 2]? = some (.slice none 0 0) ∧ A[i * 2 + 1]? = some (.int .i64 0)) ∧ (n ≤ 256 → ∀ w, (Instr.makeSlice 62 (.int .i64 n) (.int .i64 n)).run Try.prog w = .ok (.slice (some ⟨w.heap.size, 0, none⟩) n n) (w.alloc (.cells A 70))) := by
  obtain ⟨i0, hi, hz0, hz1, hz2⟩ := info_parts info70
  refine ⟨madeCells (Value.agg #[.slice none 0 0, .int .i64 0]).cells (n * 2), fun i hi => ?_, fun hn w => ?_⟩
  · have e : (Value.agg #[.slice none 0 0, .int .i64 0]).cells = #[.slice none 0 0, .int .i64 0] := rfl
    rw [e]
    unfold madeCells
    constructor
    · simp [show i * 2 < n * 2 by omega]
    · simp [show i * 2 + 1 < n * 2 by omega, show (i * 2 + 1) % 2 = 1 by omega]
  · have := run_make (P := Try.prog) w 62 70 i0 _ Try.underlying62 hi hz0 .i64 .i64 n n (by omega) (by omega) (by rw [hz2]; omega) (by omega)
    rw [hz1] at this
    simpa using this
theorem NW.start {w : World} {n : Nat} {T : Nat → Tk} {A : Array Value} (h : ∀ i, i < n → A[i * 2]? = some (.slice none 0 0) ∧ A[i * 2 + 1]? = some (.int .i64 0)) : NW w n 0 (w.heap.size + 1) w.heap.size (fun _ => 0) T ((w.alloc (.cells A 70)).alloc (.cells #[.int .i64 0, .slice (some ⟨w.heap.size, 0, none⟩) n n] 64)) := by
  have s1 : (w.alloc (.cells A 70)).heap.size = w.heap.size + 1 := by simp
  have hp := heap_alloc_last (w.alloc (.cells A 70)) (.cells #[.int .i64 0, .slice (some ⟨w.heap.size, 0, none⟩) n n] 64)
  rw [s1] at hp
  have ht : ((w.alloc (.cells A 70)).alloc (.cells #[.int .i64 0, .slice (some ⟨w.heap.size, 0, none⟩) n n] 64)).heap[w.heap.size]? = some (.cells A 70 (0, 0)) := kept2 (heap_alloc_last w _) (Up.alloc _ _)
  refine ⟨(row_cell hp 0).1, (row_cell hp 1).1, fun i hi => by omega, fun i hi => ?_, fun i hi => ?_, fun i hi => by omega, fun j => (row_cell hp j).2, fun j => (row_cell ht j).2, fun i hi => by omega, (Array.getElem?_eq_some_iff.1 hp).1, (Array.getElem?_eq_some_iff.1 ht).1, by omega, fun i hi => by omega, fun i j hi => by omega, ⟨by omega, Nat.le_refl _, fun i hi => by omega⟩, (Up.alloc _ _).trans (Up.alloc _ _)⟩
  · rw [(row_cell ht (i * 2)).1, (h i hi).1]; rfl
  · rw [(row_cell ht (i * 2 + 1)).1, (h i hi).2]
theorem t10long {w : World} {p : Option Addr} {n cap : Nat} (h : 256 < n) : Calls Try.prog 10 #[.slice p n cap] w (VU w (.tuple #[.pointer none, .int .i64 3])) := by
  have z : (256 : Int) < (n : Int) := by omega
  go_enter Try.func10, Try.ntmps10
  go_wp2
  go_ret2
  exact ⟨rfl, Up.refl _⟩
/-- What New leaves: the first k may be; if that are all, a plan; else the error. -/
def NewR (w : World) (n : Nat) (T : Nat → Tk) (e : Ending) (w' : World) : Prop :=
  ((∀ i, i < n → MayT (T i).e (T i).l) ∧ ∃ L, e = .returned (.tuple #[.pointer (some ⟨L.bp, 0, none⟩), .int .i64 0]) ∧ Hid (PW w' L n (newP T)) ∧ Hid (L.Ok n) ∧ Hid (∀ b, L.Own n b → w.heap.size ≤ b) ∧ Hid (Up w w')) ∨
  (¬ (∀ i, i < n → MayT (T i).e (T i).l) ∧ e = .returned (.tuple #[.pointer none, .int .i64 240]) ∧ Hid (Up w w'))
set_option maxRecDepth 20000 in
set_option maxHeartbeats 4000000 in
theorem t10 {w : World} {p : Option Addr} {n cap : Nat} {T : Nat → Tk} (h : TL w p n cap T) (hn : n ≤ 256) : Calls Try.prog 10 #[.slice p n cap] w (NewR w n T) := by
  have HTL : Hid (TL w p n cap T) := h
  obtain ⟨A, hA, hM⟩ := made70 n
  replace hM := hM hn
  have HN : Hid (NW w n 0 (w.heap.size + 1) w.heap.size (fun _ => 0) T ((w.alloc (.cells A 70)).alloc (.cells #[.int .i64 0, .slice (some ⟨w.heap.size, 0, none⟩) n n] 64))) := NW.start hA
  have hn2 : (n : Int) ≤ 256 := by omega
  clear h hA
  go_enter Try.func10, Try.ntmps10
  go_wp2_with fail
  clear hM
  generalize (w.alloc (.cells A 70)).alloc (.cells #[.int .i64 0, .slice (some ⟨w.heap.size, 0, none⟩) n n] 64) = W0 at *
  generalize w.heap.size + 1 = bp at *
  have HNN : Hid (n ≤ 256) := hn
  clear hn2 hn
  generalize w.heap.size = bt at HN ⊢
  go_loopw [5, 6, 17] (fun _ _ v17 wr => ∃ (k : Nat) (br : Nat → Nat), k ≤ n ∧ v17 = .int .i64 k ∧ Hid (NW w n k bp bt br T wr) ∧ Hid (∀ i, i < k → MayT (T i).e (T i).l)) (fun _ _ v17 _ => n - (intOf v17).toNat)
  case atStart => exact ⟨0, fun _ => 0, by omega, rfl, HN, fun i hi => by omega⟩
  case round =>
    clear HN
    obtain ⟨k, br, hk, rfl, HN, HMA⟩ := hrel
    rename World => wr
    by_cases hlt : k < n
    · have z1 : (k : Int) < (n : Int) := by omega
      have z2 : (0 : Int) ≤ (k : Int) := by omega
      obtain ⟨gb, o, hpp, hr⟩ := HTL.out.rd (by omega)
      have HR : Hid _ := hr
      obtain ⟨c0, c1, c2⟩ := (hr k hlt).up HN.out.up
      generalize hT : T k = tk at *
      obtain ⟨e, l, r⟩ := tk
      have HTK : Hid (T k = ⟨e, l, r⟩) := hT
      simp only at c0 c1 c2
      subst hpp
      clear hr hT
      have lg := World.block_lt_of_cell? wr _ c0
      simp only at lg
      have C25 : ∀ w, Hid (Calls Try.prog 25 #[.agg #[.int .i64 e, .int .i64 l, .int .i64 r]] w (VU w (.bool (decide (1 ≤ l) && decide (l ≤ e) && decide (e ≤ 1099511627776))))) := fun w => t25 e l r w
      obtain ⟨b, hb⟩ : ∃ b, (decide (1 ≤ l) && decide (l ≤ e) && decide (e ≤ 1099511627776)) = b := ⟨_, rfl⟩
      have HB : Hid (b = true ↔ MayT e l) := by show _ ↔ _; rw [← hb]; exact may_dec e l
      rw [hb] at C25
      have HNa : Hid (NW w n k bp bt br T (wr.alloc (.cells #[.int .i64 e, .int .i64 l, .int .i64 r] 26))) := HN.out.upp (Up.alloc _ _)
      have HTa : Hid (TkAt (wr.alloc (.cells #[.int .i64 e, .int .i64 l, .int .i64 r] 26)) wr.heap.size 0 ⟨e, l, r⟩) := by
        have e0 := heap_alloc_last wr (.cells #[.int .i64 e, .int .i64 l, .int .i64 r] 26)
        exact ⟨(row_cell e0 0).1, by rw [Nat.zero_add]; exact (row_cell e0 1).1, by rw [Nat.zero_add]; exact (row_cell e0 2).1⟩
      clear hb
      cases b
      · go_wp2_with (go_at_call 25; (with_reducible refine ((C25 _).out).mono ?_); rintro e w1 ⟨rfl, HU1⟩)
        go_ret2
        refine Or.inr ⟨fun q => ?_, rfl, HNa.out.up.trans HU1.out⟩
        have := q k hlt
        rw [HTK.out] at this
        exact Bool.false_ne_true (HB.out.2 this)
      · go_upto_region 9 with (go_at_call 25; (with_reducible refine ((C25 _).out).mono ?_); rintro e w1 ⟨rfl, HU1⟩; (have HN1 : Hid (NW w n k bp bt br T w1) := HNa.out.upp HU1.out))
        have HT1 : Hid (TkAt w1 wr.heap.size 0 ⟨e, l, r⟩) := HTa.out.up HU1.out
        obtain ⟨d0, d1, d2⟩ := HT1.out
        have d3 := HN1.out.p1
        obtain ⟨vv, d4⟩ := Option.isSome_iff_exists.1 (HN1.out.cs k hlt)
        have d5 := HN1.out.ft (k * 2)
        have d6 := HN1.out.lp
        have d7 := HN1.out.lt
        have d8 : wr.heap.size < w1.heap.size := World.block_lt_of_cell? w1 ⟨wr.heap.size, 0, none⟩ d0
        simp only [Nat.zero_add] at d0 d1 d2
        clear c0 c1 c2 lg C25 HNa HTa
        go_region
        go_wp2_with fail
        have hs : (w1.alloc (.cells #[.int .i64 0, .int .i64 e, .int .i64 l, .int .i64 r] 67)).setCell ⟨bt, k * 2, none⟩ (.slice (some ⟨w1.heap.size, 0, none⟩) 1 1) = (w1.setCell ⟨bt, k * 2, none⟩ (.slice (some ⟨w1.heap.size, 0, none⟩) 1 1)).alloc (.cells #[.int .i64 0, .int .i64 e, .int .i64 l, .int .i64 r] 67) := by go_simp
        have HN2 : NW w n (k + 1) bp bt (upd br k w1.heap.size) T ((w1.setCell ⟨bt, k * 2, none⟩ (.slice (some ⟨w1.heap.size, 0, none⟩) 1 1)).alloc (.cells #[.int .i64 0, .int .i64 e, .int .i64 l, .int .i64 r] 67)) := by
          rw [← hs]
          refine NW.next (HN1.out.upp (Up.alloc _ _)) hlt ?_ HN1.out.up.size ⟨by omega, by omega, fun i hi => by have := HN1.out.lr hi; omega⟩
          rw [HTK.out]
          exact heap_alloc_last _ _
        go_roundw
        case rel => exact ⟨k + 1, upd br k w1.heap.size, by omega, by go_num, HN2.upp (Up.drew _), fun i hi => by
          rcases Nat.lt_succ_iff_lt_or_eq.1 hi with q | rfl
          · exact HMA.out i q
          · rw [HTK.out]; exact HB.out.1 trivial⟩
        case measure => simp [intOf]; omega
    · obtain rfl : k = n := by omega
      go_wp2
      go_ret2
      obtain ⟨q1, q2, q3⟩ := HN.out.pw
      exact Or.inl ⟨HMA.out, _, rfl, q1, q2, q3, HN.out.up⟩
end Go.Proofs.Ytjklaemhfhakhaa

/- The pivot of a column. -/
import Derived.Test.YthpoipajfkfdeabCc
import Derived.Maps.AppendAt
namespace Go.Proofs.Ythpoipajfkfdeab
open Go.ChangeShapes Go.WideShapes Go.ChangeAt Go.RowKit Go.Fl Ieee
attribute [local go_sem] run_store_float run_store_c call43 call17 run_neg fold_eq fold_ne fold_lt fold_gt abs_eq

theorem upon_make0 {o : Oper} {a : Act} {next : Act → World → Prop} {Q : Exit → Act → World → Prop} {n : Nat} {w : World} {F : Value → World → Result Next} (hn : n ≤ 1000000)
    (hk : ∀ w', Hid (CRow w.heap.size w' (.slice (some ⟨w.heap.size, 0, none⟩) 0 n) []) → Hid (Up w w') → o.upon Try.prog a next Q (F (.slice (some ⟨w.heap.size, 0, none⟩) 0 n) w')) :
    o.upon Try.prog a next Q (((Instr.makeSlice 22 (.int .i64 0) (.int .i64 n)).run Try.prog w).andThen F) := by
  obtain ⟨i0, hi, hz0, hz1, hz2⟩ := info_parts info26
  obtain ⟨w', e, h1, h2⟩ := run_make_own (P := Try.prog) w w.heap.size 22 26 i0 (.complex .f64 0 0) 1 Try.underlying22 hi hz0 hz1 .i64 .i64 n (by rw [hz2]; omega) (by unfold maxLen; omega) (Nat.le_refl _)
  rw [e]
  exact hk _ h1 (Below.grown (Below.refl _ _) h2 (Nat.le_refl _) (fun j hj => by cases hj))
theorem one_new (w : World) (v : Value) (t : TypeId) : ∀ (j : Nat) (u : Value), [v][j]? = some u → (w.alloc (.cells #[v] t)).cell? ((⟨w.heap.size, 0, none⟩ : Addr).add j) = some u := by
  intro j u hj
  match j, hj with
  | 0, hj => simp at hj; subst hj; exact World.cell?_alloc_at _ _ _ _ rfl
/-- A number is appended to a row of one's own. -/
theorem wpList_pushC {ops : Array Oper} {rest : List Oper} {o : Oper} {a : Act} {Q : Exit → Act → World → Prop} (hgd : o.guard = none) (s x : Operand) (ho : o.op = .call { callee := .builtin .append, args := #[s, x], argTypes := #[22, 22] })
    {b : Nat} {w : World} (p : Option Addr) (m c : Nat) (L : List (Nat × Nat)) (y z : Nat) (hs : a.eval s = .slice p m c) (hx : a.eval x = .slice (some ⟨w.heap.size, 0, none⟩) 1 1) (HO : CRow b w (.slice p m c) L) (hb : b ≤ w.heap.size) (hl : L.length = m) (hm : m ≤ 2000000)
    (h : ∀ p' c' w', Hid (CRow b w' (.slice p' (m + 1) c') (L ++ [(y, z)])) → (w.alloc (.cells #[.complex .f64 y z] 26)).grownBy w' (Value.slice p m c).ownBlock → wpList Try.prog ops Q rest (a.put o.dst (.slice p' (m + 1) c')) w') : wpList Try.prog ops Q (o :: rest) a (w.alloc (.cells #[.complex .f64 y z] 26)) := by
  obtain ⟨i0, hi, hz0, hz2, hz3⟩ := info_parts info26
  have HO' : (w.alloc (.cells #[.complex .f64 y z] 26)).ownsRow b 26 1 (.slice p m c) L.length (L.map ce) := World.ownsRow.alloc HO _
  refine wpList_append_own_at _ hgd s x 22 ho b 26 i0 (.complex .f64 0 0) 1 16 Try.underlying22 hi hz0 hz2 hz3 rfl (by decide) _ _ _ hs HO' ⟨w.heap.size, 0, none⟩ 1 1 [.complex .f64 y z] hx rfl (one_new _ _ _) (fun u hu => by simp at hu; subst hu; rfl) (by unfold maxLen; omega) (by omega) (by simp; omega) ?_
  intro v' w' h1 h2 _ h4
  obtain ⟨p', c', hv, _⟩ := own_form h1
  rw [hl] at hv
  subst hv
  refine h p' c' w' ?_ h2
  show w'.ownsRow _ _ _ _ _ _
  rw [List.length_append, List.map_append]
  exact h1
theorem pk_congr {F G : Nat → Option Nat} : ∀ n, (∀ i, i < n → F i = G i) → pk F n = pk G n
  | 0, _ => rfl
  | n + 1, h => by
    rw [pk, pk, pk_congr n (fun i hi => h i (by omega)), h n (by omega)]
theorem pk_range (F : Nat → Option Nat) : ∀ n, 0 < n → 0 ≤ (pk F n).1 ∧ (pk F n).1 < n
  | 0, h => by omega
  | n + 1, _ => by
    rw [pk]
    split
    · exact ⟨by show (0 : Int) ≤ (n : Int); omega, by show (n : Int) < ((n + 1 : Nat) : Int); omega⟩
    · rename_i hh
      rcases Nat.eq_zero_or_pos n with rfl | hp
      · exact absurd (by rw [pk]; simp) hh
      · have := pk_range F n hp
        omega
/-- How far below the row k the pivot lies. -/
def pvI (T : Nat → Nat → CN) (k r : Nat) : Int := (pk (fun i => sqC (T (k + i) k)) r).1
theorem app_get_lt {L : List (Nat × Nat)} {y : Nat × Nat} {j : Nat} (h : j < L.length) : (L ++ [y])[j]! = L[j]! := by
  simp [List.getElem!_eq_getElem?_getD, List.getElem?_append_left h]
theorem app_get_eq {L : List (Nat × Nat)} {y : Nat × Nat} {j : Nat} (h : L.length = j) : (L ++ [y])[j]! = y := by
  subst h
  simp
set_option maxHeartbeats 4000000 in
set_option maxRecDepth 20000 in
theorem t27 {w0 w : World} {A B n m : Nat} {σ : Nat → Nat} {T : Nat → Nat → CN} {k r : Nat} (h : EQ w0 w A B n m σ T) (hr : n = k + r) (hr0 : 0 < r) (hkm : k < m) (hn : n ≤ 100000) (hm : m ≤ 100000) : Calls Try.prog 27 #[.slice (some ⟨A, 0, none⟩) n n, .int .i64 k] w fun e w' => e = .returned (.int .i64 (k + pvI T k r)) ∧ Hid (Up w w') := by
  have HE : Hid (EQ w0 w A B n m σ T) := h
  have HI : Hid (n = k + r ∧ 0 < r ∧ k < m ∧ n ≤ 100000) := ⟨hr, hr0, hkm, hn⟩
  have z0 : (n : Int) - (k : Int) = r := by omega
  have z1 : (n : Int) ≤ 100000 := by omega
  have z2 : (k : Int) ≤ (n : Int) := by omega
  have z3 : ¬ n = k := by omega
  have z4 : ¬ n - k = 0 := by omega
  have z5 : n - k = r := by omega
  have z6 : r ≤ 1000000 := by omega
  have z7 : (k : Int) < (m : Int) := by omega
  have z8 : (m : Int) ≤ 100000 := by omega
  clear h hr hkm hn hm
  go_enter Try.func27, Try.ntmps27
  go_wp2_with ((with_reducible refine upon_make0 z6 ?_); intro w1 HC1 HU1)
  go_loopw [5, 7, 17] (fun vc _ vi wr => ∃ (i c : Nat) (p : Option Addr) (L : List (Nat × Nat)), i ≤ r ∧ vc = .slice p i c ∧ vi = .int .i64 i ∧ Hid (CRow w.heap.size wr (.slice p i c) L) ∧ Hid (Up w wr) ∧ Hid (L.length = i ∧ ∀ j, j < i → ab2 L[j]! = T (k + j) k)) (fun _ _ vi _ => r - (intOf vi).toNat)
  case atStart => exact ⟨0, r, _, [], by omega, rfl, rfl, HC1, HU1, rfl, fun j hj => by omega⟩
  case round =>
    clear HC1 HU1
    obtain ⟨i, c, p, L, hi, rfl, rfl, HC, HU, HL⟩ := hrel
    rename World => wr
    by_cases hlt : i < r
    · have HEr : Hid (EQ w0 wr A B n m σ T) := HE.out.mono HU.out
      have c0 := HEr.out.row (i := k + i) (by have := HI.out; omega)
      obtain ⟨x, y, c1, e1, -⟩ := HEr.out.cell (i := k + i) (j := k) (by have := HI.out; omega) HI.out.2.2.1
      have E1 : Hid ((ab x, ab y) = T (k + i) k) := e1
      obtain ⟨X, hX⟩ : ∃ X, σ (k + i) * m = X := ⟨_, rfl⟩
      rw [hX] at c0 c1
      have y1 : (i : Int) < (r : Int) := by omega
      have HM : Hid (i ≤ 2000000) := (by omega : i ≤ 2000000)
      clear e1 hX
      go_wp2_with (at_builtin; refine wpList_pushC (b := w.heap.size) rfl _ _ rfl p i c L x y rfl rfl HC.out (RowKit.Below.size HU.out) HL.out.1 HM.out ?_; intro p' c' w7 O7 G7; (have HU7 : Hid (Up w w7) := RowKit.Below.grown (HU.out.trans (Up.alloc _ _)) G7 (RowKit.Below.size (HU.out.trans (Up.alloc _ _))) (fun j hj => (World.ownsRow.lt HC.out j hj).1)); clear G7)
      go_roundw
      case rel =>
        refine ⟨i + 1, c', p', _, by omega, rfl, by go_num, O7, HU7, ?_, fun j hj => ?_⟩
        · rw [List.length_append, HL.out.1]; rfl
        · by_cases e : j < i
          · rw [app_get_lt (by rw [HL.out.1]; exact e)]; exact HL.out.2 j e
          · obtain rfl : j = i := by omega
            rw [app_get_eq HL.out.1]; exact E1.out
      case measure => simp [intOf]; omega
    · obtain rfl : i = r := by omega
      obtain ⟨g, hg⟩ : ∃ g, p = some ⟨g, 0, none⟩ := by
        obtain ⟨p1, c1, e1, e2⟩ := own_form HC.out
        simp only [Value.slice.injEq] at e1
        obtain ⟨g, hg⟩ := e2 (by rw [HL.out.1]; exact hr0)
        exact ⟨g, e1.1.trans hg⟩
      subst hg
      have HRD : Hid (RD wr g 0 i (fun j => L[j]!)) := fun j hj => by
        have := HC.out.cell (i := j) (by rw [HL.out.1]; exact hj)
        rw [Nat.zero_add]; exact this
      have HP : Hid ((pk (pwF (fun j => L[j]!)) i).1 = pvI T k i) := by
        show _ = _
        unfold pvI
        rw [pk_congr i (fun j hj => ?_)]
        have := HL.out.2 j hj
        show abs2F (ab L[j]!.1) (ab L[j]!.2) = sqC (T (k + j) k)
        rw [← this]; rfl
      have T38 : Hid (Calls Try.prog 38 #[.slice (some ⟨g, 0, none⟩) i c] wr fun e w' => e = .returned (.int .i64 (pvI T k i)) ∧ ∃ q, w' = wr.drewN q) := by
        rw [← HP.out]; exact t38 g 0 i c _ wr HRD.out (by omega)
      have hpr : 0 ≤ pvI T k i ∧ pvI T k i < i := pk_range _ i hr0
      obtain ⟨V, hV⟩ : ∃ V, pvI T k i = V := ⟨_, rfl⟩
      rw [hV] at T38 hpr
      have HV : Hid (pvI T k i = V) := hV
      obtain ⟨v1, v2⟩ := hpr
      clear HP HRD HC HL hV
      go_wp2_with (go_at_call 38; (with_reducible refine T38.out.mono ?_); rintro e w' ⟨rfl, q, rfl⟩)
      go_ret
      exact ⟨by rw [HV.out]; rfl, HU.out.trans (Up.drewN _ _)⟩
end Go.Proofs.Ythpoipajfkfdeab

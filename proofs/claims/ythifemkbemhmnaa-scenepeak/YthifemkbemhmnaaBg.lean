/- Compress. -/
import Derived.Test.YthifemkbemhmnaaBf
namespace Go.Proofs.Ythifemkbemhmnaa
open Go.ChangeShapes Go.WideShapes Go.ChangeAt Go.RowKit Go.Fl Ieee
attribute [local go_sem] run_store_float run_store_c isSome_set call69 call32 run_neg fold_eq fold_ne fold_lt fold_gt abs_eq

theorem splice_at (L X : List (Nat × Nat)) (off i : Nat) (h : off + X.length ≤ L.length) : (splice L off X)[i]! = if off ≤ i ∧ i < off + X.length then X[i - off]! else L[i]! := by
  simp only [getElem!_def, splice, List.getElem?_append, List.length_take, List.getElem?_take, List.getElem?_drop]
  by_cases h1 : i < off
  · rw [if_pos (by omega), if_pos h1, if_neg (by omega)]
  · rw [if_neg (by omega)]
    have e : i - min off L.length = i - off := by omega
    rw [e]
    by_cases h2 : i < off + X.length
    · rw [if_pos (by omega), if_pos (by omega)]
    · rw [if_neg (by omega), if_neg (by omega)]
      have e2 : off + X.length + (i - off - X.length) = i := by omega
      rw [e2]
theorem CRow.of_heap' {b g n : Nat} {w : World} {d : List (Nat × Nat)} (hl : d.length = n) (hb : b ≤ g) (hn : n ≤ 1000000) (h : w.heap[g]? = some (.cells (d.map ce).toArray 28 (0, 0))) : CRow b w (.slice (some ⟨g, 0, none⟩) n n) d := by
  subst hl
  refine ⟨by simp, Or.inr ⟨g, _, _, rfl, hb, h, Nat.le_refl _, by unfold maxLen; omega, by simp, ?_⟩⟩
  rw [List.take_of_length_le (by simp)]
/-- A stretch of the table's list is written anew. -/
theorem BT.spliced {w wr w' : World} {A B n m : Nat} {d X : List (Nat × Nat)} {x : Nat} (h : BT w wr A B n m d) (hK : n * m ≤ 1000000) (hx : x + X.length ≤ n * m) (h1 : w'.heap[B]? = some (.cells ((splice d x X).map ce).toArray 28 (0, 0))) (h2 : But B wr w') : BT w w' A B n m (splice d x X) := by
  have hl := h.all.len
  exact ⟨h.ne, h.loA, h.loB, h.ans.far h2 h.ne, CRow.of_heap' (by rw [length_splice _ _ _ (by omega)]; exact hl) h.loB hK h1, h2.up h.up h.loB⟩
/-- What Match tells of a row, in a row of its own. -/
theorem found_of {w1 w2 : World} {v : Value} {m : Nat} {ds : List (Nat × Nat)} {L : Nat → C2} (h0 : 0 < m) (h1 : CRow w1.heap.size w2 v ds) (h3 : ds.map ab2 = (List.range m).map L) :
    ∃ S cap, v = .slice (some ⟨S, 0, none⟩) m cap ∧ RD w2 S 0 m (fun i => ds[i]!) ∧ ds.length = m ∧ ∀ k, k < m → ab2 ds[k]! = L k := by
  have hl : ds.length = m := by
    have := congrArg List.length h3
    simpa using this
  obtain ⟨S, cap, rfl⟩ := row_form' h1 hl h0
  refine ⟨S, cap, rfl, fun j hj => by rw [Nat.zero_add]; exact h1.cell (by omega), hl, fun k hk => ?_⟩
  have e : (ds.map ab2)[k]? = ((List.range m).map L)[k]? := by rw [h3]
  rw [ab2_at (by omega), List.getElem?_map, List.getElem?_range hk] at e
  exact Option.some.inj e
theorem cut_at (f : Nat → Nat × Nat) (o k i : Nat) (hi : i < k) : (cut f o k)[i]! = f (o + i) := by
  rw [getElem!_pos _ _ (by rw [cut_len]; exact hi)]
  simp [cut]
set_option maxRecDepth 20000 in
/-- No rows. -/
theorem t21z {w : World} {p q : Option Addr} {c x y : Nat} (F : Nat → Nat → C2) (hx : 1 ≤ x) (hx2 : x ≤ 16384) : Calls Try.prog 21 #[.slice p 0 c, .slice q x y] w (OKT w 0 0 F) := by
  have HA : Hid (Calls Try.prog 44 #[.slice (some ⟨w.heap.size + 1 + 1, 0, none⟩) 4 4] (askCw w (.slice p 0 c) x) (EU 0 (askCw w (.slice p 0 c) x))) :=
    askC (b0 := false) (b1 := false) (b2 := false) (b3 := false) (fun w' _ => t45z p c w') (by simp; omega) (fun _ _ w' _ => t47c (TV.nil w' p c) (by omega) (by omega) (by simp)) (fun _ _ _ => ⟨0, TV.nil w p c, by omega, by omega, Or.inr ⟨hx2, by simp⟩⟩) rfl
  have H14 : ∀ W, Calls Try.prog 50 #[.int .i64 0, .int .i64 0] W (BL W 0 0) := fun W => t50 0 0 W (by omega) (by omega) (by omega)
  have HV : ∀ W, Calls Try.prog 51 #[.slice p 0 c] W (IR 0 W) := fun W => t51 (TV.nil W p c) (by omega)
  have HH : Hid ((∀ W, Calls Try.prog 50 #[.int .i64 0, .int .i64 0] W (BL W 0 0)) ∧ ∀ W, Calls Try.prog 51 #[.slice p 0 c] W (IR 0 W)) := ⟨H14, HV⟩
  clear H14 HV
  go_enter Try.func21, Try.ntmps21
  go_wp2_with (first
    | (go_at_call 44; (with_reducible refine HA.out.mono ?_); rintro e W ⟨rfl, HU⟩; clear HA
       have HU1 : Hid (Up w W) := (((boxC_cells w (.slice p 0 c) x).2.2.trans (Up.alloc _ _)).trans HU.out)
       have x1 := cell_up (boxC_cells w (.slice p 0 c) x).1 ((Up.alloc _ _).trans HU.out)
       clear HU)
    | (go_at_call 51; (with_reducible refine (HH.out.2 _).mono ?_); rintro e w' ⟨rfl, rfl⟩)
    | (go_at_call 50; (with_reducible refine (HH.out.1 _).mono ?_); rintro e w3 ⟨A, B, rfl, HB⟩))
  have HS : Hid (BT w w3 A B 0 0 (List.replicate (0 * 0) (0, 0))) := HB.out.base HU1.out
  clear HB HU1
  go_loopw [39] (fun vi wr => vi = .int .i64 0 ∧ wr = w3) (fun _ _ => 0)
  case atStart => exact ⟨rfl, rfl⟩
  case round =>
    obtain ⟨rfl, rfl⟩ := hrel
    go_wp2
    go_ret2
    exact ⟨A, B, _, rfl, HS, fun k hk => by omega⟩
set_option maxRecDepth 20000 in
set_option maxHeartbeats 4000000 in
theorem t21 {w : World} {R n m c : Nat} {P : Nat → Option Addr} {C G O : Nat → Nat} {f : Nat → Nat → Nat × Nat} {pg po x pc : Nat} {fp : Nat → Nat × Nat} (h : TI w R n m P C G O f) (hp : RD w pg po x fp) (hn0 : 0 < n) (hm0 : 0 < m) (hx0 : 0 < x) (hn : n ≤ 256) (hm : m ≤ 16384) (hx : x ≤ 16384) (hnm : n * m ≤ 262144) (hnn : n * m * x ≤ 16777216) :
    Calls Try.prog 21 #[.slice (some ⟨R, 0, none⟩) n c, .slice (some ⟨pg, po, none⟩) x pc] w (OKT w n m (fun p g => heldF (f p) m fp x g)) := by
  have HA : Hid (Calls Try.prog 44 #[.slice (some ⟨w.heap.size + 1 + 1, 0, none⟩) 4 4] (askCw w (.slice (some ⟨R, 0, none⟩) n c) x) (EU 0 (askCw w (.slice (some ⟨R, 0, none⟩) n c) x))) :=
    askC (b0 := false) (b1 := false) (b2 := false) (b3 := false) (fun w' hu => t45 R n c n P _ C false w' (h.tb.up hu) (by omega) (fun _ _ => by omega) hn0 (fun _ _ => rfl) (Or.inr ⟨rfl, rfl⟩)) (by simp; omega) (fun _ _ w' hu => t47c ((h.tv hn0).up hu) hn hm (by simpa using hnm)) (fun _ _ _ => ⟨m, h.tv hn0, hn, hm, Or.inr ⟨hx, by simpa using hnn⟩⟩) rfl
  have HT : Hid (TI w R n m P C G O f) := h
  have HW : Hid (RD w pg po x fp) := hp
  have HM : Hid (n * m ≤ 262144) := hnm
  have HMX : Hid (m * x ≤ 16777216) := by
    have h1 : 1 * (m * x) ≤ n * (m * x) := Nat.mul_le_mul_right _ hn0
    have h2 := Nat.mul_assoc n m x
    show _ ≤ _
    omega
  clear h hnm hp hnn
  go_enter Try.func21, Try.ntmps21
  go_wp2_with (first
    | (go_at_call 44; (with_reducible refine HA.out.mono ?_); rintro e W ⟨rfl, HU⟩; clear HA
       have HU1 : Hid (Up w W) := (((boxC_cells w (.slice (some ⟨R, 0, none⟩) n c) x).2.2.trans (Up.alloc _ _)).trans HU.out)
       have x1 := cell_up (boxC_cells w (.slice (some ⟨R, 0, none⟩) n c) x).1 ((Up.alloc _ _).trans HU.out)
       clear HU)
    | (go_at_call 51; (with_reducible refine (t51 ((HT.out.tv hn0).up HU1.out) (by omega)).mono ?_); rintro e w' ⟨rfl, rfl⟩)
    | (go_at_call 50; (with_reducible refine (t50 n m _ (by omega) hm HM.out).mono ?_); rintro e w3 ⟨A, B, rfl, HB⟩))
  have HS : Hid (BT w w3 A B n m (List.replicate (n * m) (0, 0))) := HB.out.base HU1.out
  clear HB HU1 x1
  go_loopw [39] (fun vi wr => ∃ (p : Nat) (d : List (Nat × Nat)), p ≤ n ∧ vi = .int .i64 p ∧ Hid (BT w wr A B n m d) ∧ Hid (∀ k, k < p → ∀ g, g < m → ab2 d[k * m + g]! = heldF (f k) m fp x g)) (fun vi _ => n - (intOf vi).toNat)
  case atStart => exact ⟨0, _, by omega, rfl, HS, fun k hk => by omega⟩
  case round =>
    clear HS
    obtain ⟨p, d, hp, rfl, HS, HD⟩ := hrel
    by_cases hlt : p < n
    · have y1 : (p : Int) < (n : Int) := by omega
      have y2 : (0 : Int) ≤ (p : Int) := by omega
      have c1 := ((HT.out.up HS.out.up).cell hlt hm0).1
      obtain ⟨z, hz⟩ : ∃ z, p * m = z := ⟨_, rfl⟩
      have HZ : Hid (p * m = z) := hz
      clear hz
      go_wp2_with fail
      (with_reducible refine (t11 _ _ _ _ _ _ _ _ (f p) fp _ ((HT.out.up HS.out.up).rd p hlt hm0).2 (HW.out.up HS.out.up) (HT.out.room p hlt) (by omega) hm hx HMX.out).mono ?_)
      rintro e w4 ⟨v4, ds, rfl, h1, h2, h3⟩
      obtain ⟨S, cap, rfl, k1, k2, k3⟩ := found_of hm0 h1.out h3.out
      have HF : Hid (RD w4 S 0 m (fun i => ds[i]!)) := k1
      have HFE : Hid (∀ k, k < m → ab2 ds[k]! = heldF (f p) m fp x k) := k3
      have HFL : Hid (ds.length = m) := k2
      have HS4 : Hid (BT w w4 A B n m d) := HS.out.mono h2.out
      have c2 := (HS4.out.rows hlt hm0 HZ.out).1
      clear h1 h2 h3 k1 k2 k3 HS
      have HH : Hid (w4.heap[B]? = some (.cells (d.map ce).toArray 28 (0, 0))) := HS4.out.all.heap
      have hfit : z + m ≤ d.length := by
        have h5 : (p + 1) * m ≤ n * m := Nat.mul_le_mul_right m (show p + 1 ≤ n by omega)
        have h6 := Nat.succ_mul p m
        have h7 := HS4.out.all.len
        have h8 := HZ.out
        have h9 : p.succ = p + 1 := rfl
        rw [h9] at h6
        omega
      go_wp2_with ((with_reducible refine upon_copy (s := 0) (cur := d) HH HF rfl (by omega) (by omega) hfit ?_); intro w5 HC5 HB5)
      go_roundw
      case rel =>
        have hl : (cut (fun i => ds[i]!) 0 m).length = m := cut_len _ _ _
        have hln := HS4.out.all.len
        have hM := HM.out
        refine ⟨p + 1, _, by omega, by go_num, HS4.out.spliced (by omega) (by rw [hl]; omega) HC5.out HB5.out, fun k hk g hg => ?_⟩
        rw [splice_at _ _ _ _ (by rw [hl]; exact hfit), hl]
        by_cases e : k = p
        · subst e
          rw [if_pos (by have := HZ.out; omega), HZ.out, show z + g - z = g by omega, cut_at _ _ _ _ hg, Nat.zero_add]
          exact HFE.out g hg
        · rw [if_neg (fun h => ?_)]
          · exact HD.out k (by omega) g hg
          · have h8 := HZ.out
            obtain ⟨q, hq⟩ : ∃ q, k * m + g = p * m + q ∧ q < m := ⟨k * m + g - z, by omega, by omega⟩
            exact e (idx_inj hq.1 hg hq.2).1
      case measure => simp [intOf]; omega
    · obtain rfl : p = n := by omega
      go_wp2
      go_ret2
      exact ⟨A, B, d, rfl, HS, HD⟩
end Go.Proofs.Ythifemkbemhmnaa

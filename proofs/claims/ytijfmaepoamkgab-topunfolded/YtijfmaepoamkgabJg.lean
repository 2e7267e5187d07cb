/- Several rings: newRings. -/
import Derived.Test.YtijfmaepoamkgabJf
import Derived.Test.YtijfmaepoamkgabRh
namespace Go.Proofs.Ytijfmaepoamkgab.Fo
open Go.ChangeShapes Go.WideShapes Go.ChangeAt Go.RowKit

theorem info45 : (Try.prog.info? 70).map (fun i => (i.zero, i.size, i.bytes)) = some (some (.agg #[.int .i64 0, .int .i64 0]), 2, 16) := by kernel_rfl
theorem made2 {n : Nat} (h : n ≤ 8) : (madeCells (Value.agg #[.int .i64 0, .int .i64 0]).cells (n * 2)).toList = List.replicate (n * 2) (.int .i64 0) := by
  rcases (show n = 0 ∨ n = 1 ∨ n = 2 ∨ n = 3 ∨ n = 4 ∨ n = 5 ∨ n = 6 ∨ n = 7 ∨ n = 8 by omega) with rfl | rfl | rfl | rfl | rfl | rfl | rfl | rfl | rfl <;> kernel_rfl
/-- A row of pairs in memory. -/
def RG (w : World) (g n : Nat) (f : Nat → Int × Int) : Prop := ∃ cs : Array Value, w.heap[g]? = some (.cells cs 70) ∧ cs.size = n * 2 ∧ ∀ i, i < n → cs[i * 2]? = some (.int .i64 (f i).1) ∧ cs[i * 2 + 1]? = some (.int .i64 (f i).2)
theorem RG.cells {w : World} {g n : Nat} {f : Nat → Int × Int} (h : RG w g n f) {i : Nat} (hi : i < n) : w.cell? ⟨g, i * 2, none⟩ = some (.int .i64 (f i).1) ∧ w.cell? ⟨g, i * 2 + 1, none⟩ = some (.int .i64 (f i).2) := by
  obtain ⟨cs, h1, h2, h3⟩ := h
  unfold World.cell?
  simp [h1, (h3 i hi).1, (h3 i hi).2]
theorem RG.frz {w : World} {g n : Nat} {f : Nat → Int × Int} (h : RG w g n f) (i : Nat) : w.frozen? ⟨g, i, none⟩ = false := by
  obtain ⟨cs, h1, h2, h3⟩ := h
  unfold World.frozen?
  simp [h1]
theorem RG.lt {w : World} {g n : Nat} {f : Nat → Int × Int} (h : RG w g n f) : g < w.heap.size := by
  obtain ⟨cs, h1, h2, h3⟩ := h
  exact (Array.getElem?_eq_some_iff.1 h1).1
theorem RG.up {w w' : World} {g n : Nat} {f : Nat → Int × Int} (h : RG w g n f) (hu : Up w w') : RG w' g n f := by
  have := hu.block g h.lt
  obtain ⟨cs, h1, h2, h3⟩ := h
  exact ⟨cs, by rw [this]; exact h1, h2, h3⟩
theorem RG.mono {w : World} {g n : Nat} {f f' : Nat → Int × Int} (h : RG w g n f) (e : ∀ i, i < n → f i = f' i) : RG w g n f' := by
  obtain ⟨cs, h1, h2, h3⟩ := h
  exact ⟨cs, h1, h2, fun i hi => by rw [← e i hi]; exact h3 i hi⟩
theorem RG.there {w : World} {g n : Nat} {f : Nat → Int × Int} (h : RG w g n f) {i : Nat} (hi : i < n) : w.there g (i * 2) 2 := by
  intro j hj
  obtain ⟨c0, c1⟩ := h.cells hi
  refine ⟨?_, h.frz _⟩
  rcases (show j = 0 ∨ j = 1 by omega) with rfl | rfl
  · rw [Nat.add_zero, c0]; rfl
  · rw [c1]; rfl
def setG (w : World) (g i : Nat) (r m : Int) : World := w.setCells g (i * 2) [.int .i64 r, .int .i64 m]
theorem setG_is (w : World) (g i : Nat) (r m : Int) : setG w g i r m = (w.setCell ⟨g, i * 2, none⟩ (.int .i64 r)).setCell ⟨g, i * 2 + 1, none⟩ (.int .i64 m) := rfl
theorem Up.setG {w w' : World} {g : Nat} (h : Up w w') (hg : w.heap.size ≤ g) (i : Nat) (r m : Int) : Up w (setG w' g i r m) := by
  rw [setG_is]
  exact Below.setCell (Below.setCell h hg _) hg _
theorem RG.put {w : World} {g n : Nat} {f : Nat → Int × Int} (h : RG w g n f) {i : Nat} (hi : i < n) (r m : Int) : RG (setG w g i r m) g n (fun j => if j = i then (r, m) else f j) := by
  obtain ⟨cs, h1, h2, h3⟩ := h
  refine ⟨(cs.setIfInBounds (i * 2) (.int .i64 r)).setIfInBounds (i * 2 + 1) (.int .i64 m), ?_, by simpa using h2, fun j hj => ?_⟩
  · rw [setG_is]
    unfold World.setCell
    simp only [Array.getElem?_modify, h1]
    simp
  · by_cases e : j = i
    · subst e
      simp only [if_true]
      constructor
      · rw [Array.getElem?_setIfInBounds_ne (by omega), Array.getElem?_setIfInBounds_self_of_lt (by omega)]
      · rw [Array.getElem?_setIfInBounds_self_of_lt (by simp; omega)]
    · simp only [e, if_false]
      rw [Array.getElem?_setIfInBounds_ne (by omega), Array.getElem?_setIfInBounds_ne (by omega), Array.getElem?_setIfInBounds_ne (by omega), Array.getElem?_setIfInBounds_ne (by omega)]
      exact h3 j hj
theorem RG.new {w w' : World} {n b : Nat} (hn : n ≤ 8) (h : w'.ownsRow b 70 2 (.slice (some ⟨w.heap.size, 0, none⟩) n n) n (madeCells (Value.agg #[.int .i64 0, .int .i64 0]).cells (n * 2)).toList) : RG w' w.heap.size n (fun _ => (0, 0)) := by
  rw [made2 hn] at h
  rcases h.2 with ⟨h0, _⟩ | ⟨g, cap, cur, hv, _, hg, _, _, hs, ht⟩
  · cases h0
  · simp only [Value.slice.injEq, Option.some.injEq, Addr.mk.injEq, and_true, true_and] at hv
    obtain ⟨rfl, rfl⟩ := hv
    refine ⟨cur, hg, hs, fun i hi => ?_⟩
    have e : cur.toList = List.replicate (n * 2) (.int .i64 0) := by
      rw [← ht, List.take_of_length_le (by simp; omega)]
    have e2 : ∀ j, j < n * 2 → cur[j]? = some (.int .i64 0) := fun j hj => by
      rw [← Array.getElem?_toList, e]; simp [hj]
    exact ⟨e2 _ (by omega), e2 _ (by omega)⟩
theorem wpList_storeG {ops : Array Oper} {rest : List Oper} {op : Oper} {a : Act} {w : World} {Q : Exit → Act → World → Prop} {g n i : Nat} {f : Nat → Int × Int} {r m : Int} (h : RG w g n f) (hi : i < n) (hgd : op.guard = none) (p q : Operand) (ho : op.op = .store 70 p q)
    (hx : a.eval p = .pointer (some ⟨g, i * 2, none⟩)) (hy : a.eval q = .agg #[.int .i64 r, .int .i64 m])
    (hk : wpList Try.prog ops Q rest (a.put op.dst undef) (setG w g i r m)) : wpList Try.prog ops Q (op :: rest) a w :=
  wpList_store_mid hgd 70 p q ho g (i * 2) _ hx hy (h.there hi) size45 (by simp [Value.oneCell']) hk
/-- The rings of n remainders. -/
def ringF (r m : Nat → Int) (k : Nat) : Nat → Int × Int := fun j => if j < k then (r j % m j, m j) else (0, 0)
/-- What newRings answers: the code. -/
def ringsE (m : Nat → Int) : Nat → Int
  | 0 => 0
  | i + 1 => if ringsE m i ≠ 0 then ringsE m i else if m i < 1 ∨ 1099511627776 < m i then 2 else 0
theorem rings_ok {m : Nat → Int} : ∀ {n : Nat}, ringsE m n = 0 → ∀ i, i < n → 1 ≤ m i ∧ m i ≤ 1099511627776
  | 0, _, i, hi => by omega
  | n + 1, h, i, hi => by
    unfold ringsE at h
    by_cases h1 : ringsE m n ≠ 0
    · rw [if_pos h1] at h; exact absurd h h1
    · rw [if_neg h1] at h
      by_cases h2 : m n < 1 ∨ 1099511627776 < m n
      · rw [if_pos h2] at h; cases h
      · by_cases e : i = n
        · subst e; omega
        · exact rings_ok (n := n) (by omega) i (by omega)
theorem rings_bad {m : Nat → Int} {i : Nat} (h0 : ringsE m i = 0) (hb : m i < 1 ∨ 1099511627776 < m i) : ∀ n, ringsE m (i + 1 + n) = 2
  | 0 => by rw [Nat.add_zero, ringsE, if_neg (by omega), if_pos hb]
  | n + 1 => by
    have := rings_bad h0 hb n
    rw [← Nat.add_assoc, ringsE, if_pos (by rw [this]; decide)]; exact this
theorem rings_next {m : Nat → Int} {i : Nat} (h0 : ringsE m i = 0) (hg : 1 ≤ m i ∧ m i ≤ 1099511627776) : ringsE m (i + 1) = 0 := by
  rw [ringsE, if_neg (by omega), if_neg (by omega)]
/-- The code of newRings, whole. -/
def ringsC (m : Nat → Int) (n1 n2 : Nat) (bad : Bool) (most : Int) : Int :=
  if 8 < min n1 n2 then 3 else if ringsE m (min n1 n2) ≠ 0 then ringsE m (min n1 n2) else if bad then 2 else if 4194304 < most then 3 else 0
/-- What newRings leaves. -/
def RN (w : World) (r m : Nat → Int) (k : Nat) (e : Ending) (w' : World) : Prop := ∃ g, e = .returned (.tuple #[.slice (some ⟨g, 0, none⟩) k k, .int .i64 0]) ∧ Hid (Up w w' ∧ RG w' g k (ringF r m k) ∧ w.heap.size ≤ g)
theorem t31b (p q : Option Addr) (n1 n2 c1 c2 : Nat) (bad : Bool) (most : Int) (w : World) (h8 : 8 < min n1 n2) : Calls Try.prog 31 #[.slice p n1 c1, .slice q n2 c2, .bool bad, .int .i64 most] w fun e w' => e = .returned (.tuple #[.slice none 0 0, .int .i64 3]) ∧ Hid (Up w w') := by
  go_enter Try.func31, Try.ntmps31
  go_wp2_with (go_at_call 28; refine (t28b p q n1 n2 c1 c2 _ h8).mono ?_; rintro e w' ⟨rfl, rfl⟩)
  go_ret2
  exact ⟨rfl, Up.refl _⟩
theorem eg29 (args : Array Value) (w : World) : (callFunc 29 args).run Try.prog w = .ok (.enter 29 args) w := enters Try.func29 (by kernel_rfl) (by kernel_rfl) _ _
/-- The loop's state. -/
def NI (w : World) (g k : Nat) (r m : Nat → Int) (i : Nat) (wr : World) : Prop := Up w wr ∧ RG wr g k (ringF r m i) ∧ w.heap.size ≤ g ∧ ringsE m i = 0
set_option maxHeartbeats 4000000 in
theorem t31a (p q : Option Addr) (n1 n2 c1 c2 : Nat) (r m : Nat → Int) (bad : Bool) (most : Int) (w : World) (h8 : min n1 n2 ≤ 8) (hr : IR w p n1 r) (hm : IR w q n2 m) : Calls Try.prog 31 #[.slice p n1 c1, .slice q n2 c2, .bool bad, .int .i64 most] w fun e w' => (ringsC m n1 n2 bad most ≠ 0 ∧ e = .returned (.tuple #[.slice none 0 0, .int .i64 (ringsC m n1 n2 bad most)]) ∧ Hid (Up w w')) ∨ (ringsC m n1 n2 bad most = 0 ∧ RN w r m (min n1 n2) e w') := by
  obtain ⟨k, hk⟩ : ∃ k, min n1 n2 = k := ⟨_, rfl⟩
  have hk1 : k ≤ n1 := by omega
  have hk2 : k ≤ n2 := by omega
  have h25 : Hid (∀ w, Calls Try.prog 28 #[.slice p n1 c1, .slice q n2 c2] w fun e w' => e = .returned (.tuple #[.int .i64 (k : Int), .int .i64 0]) ∧ w' = w) := fun w => by
    have := t28 p q n1 n2 c1 c2 w h8
    rw [hk] at this
    exact this
  have hC : ringsC m n1 n2 bad most = if ringsE m k ≠ 0 then ringsE m k else if bad then 2 else if 4194304 < most then 3 else 0 := by
    unfold ringsC; rw [hk, if_neg (by omega)]
  rw [hk]
  obtain ⟨C, hCC⟩ : ∃ C, ringsC m n1 n2 bad most = C := ⟨_, rfl⟩
  rw [hCC] at hC ⊢
  have HC : Hid (C = if ringsE m k ≠ 0 then ringsE m k else if bad then 2 else if 4194304 < most then 3 else 0) := hC
  have HR : Hid (IR w p n1 r) := hr
  have HM : Hid (IR w q n2 m) := hm
  have HK : (k : Int) ≤ 8 := by omega
  have HK8 : Hid (k ≤ 8) := by show k ≤ 8; omega
  clear hr hm hk h8 hC hCC
  obtain ⟨i0, hi, hz0, hz1, hz2⟩ := info_parts info45
  go_enter Try.func31, Try.ntmps31
  go_wp2_with (first
    | (go_at_call 28; (with_reducible refine (h25.out _).mono ?_); rintro e w ⟨rfl, rfl⟩)
    | (refine wpList_make_full _ rfl _ _ 75 rfl w.heap.size 70 i0 (.agg #[.int .i64 0, .int .i64 0]) 2 Try.underlying75 hi hz0 hz1 .i64 .i64 _ _ k rfl rfl rfl rfl (by rw [hz2]; omega) (by unfold maxLen; omega) (Nat.le_refl _) ?_; intro w1 hown hgr; have HN : Hid (NI w w.heap.size k r m 0 w1) := ⟨Below.grown (Below.refl _ _) hgr (Nat.le_refl _) (fun j hj => by cases hj), (RG.new HK8.out hown).mono (fun i hi => by simp [ringF]), Nat.le_refl _, rfl⟩; clear hown hgr))
  generalize w.heap.size = g at *
  go_loopw [27] (fun vi wr => ∃ i : Nat, i ≤ k ∧ vi = .int .i64 i ∧ Hid (NI w g k r m i wr)) (fun vi _ => k - (intOf vi).toNat)
  case atStart => exact ⟨0, by omega, rfl, HN⟩
  case round =>
    clear HN
    obtain ⟨i, hik, rfl, HI⟩ := hrel
    obtain ⟨hU, hG, hg, hE⟩ := HI.out
    by_cases hlt : i < k
    · obtain ⟨b1, o1, rfl, cr⟩ := HR.out i (by omega)
      obtain ⟨b2, o2, rfl, cm⟩ := HM.out i (by omega)
      have HLT : Hid (i < k) := hlt
      have hiz : (i : Int) < (k : Int) := by omega
      have hiz1 : (i : Int) < (n1 : Int) := by omega
      have hiz2 : (i : Int) < (n2 : Int) := by omega
      have hiz0 : (0 : Int) ≤ (i : Int) := by omega
      obtain ⟨ri, hri⟩ : ∃ t, r i = t := ⟨_, rfl⟩
      obtain ⟨mi, hmi⟩ : ∃ t, m i = t := ⟨_, rfl⟩
      rw [hri] at cr
      rw [hmi] at cm
      by_cases hgd : 1 ≤ mi ∧ mi ≤ 1099511627776
      · have HN : Hid (∀ w', NI w g k r m i w' → NI w g k r m (i + 1) (setG w' g i (ri % mi) mi)) := fun w' h => by
          refine ⟨h.1.setG h.2.2.1 _ _ _, (h.2.1.put HLT.out _ _).mono (fun j hj => ?_), h.2.2.1, rings_next h.2.2.2 (by rw [hmi]; exact hgd)⟩
          unfold ringF
          by_cases e : j = i
          · subst e
            rw [if_pos rfl, if_pos (by omega), hri, hmi]
          · rw [if_neg e]
            by_cases e2 : j < i
            · rw [if_pos e2, if_pos (by omega)]
            · rw [if_neg e2, if_neg (by omega)]
        clear hU hG hg hE
        go_wp2_with fail
        refine wp_region_ord 15 [(0, none), (1, none), (2, none), (3, none), (4, none), (5, some false), (6, none), (7, none), (8, none), (9, some false), (10, some true), (11, none), (12, none), (13, none), (14, none)] (fun w' => NI w g k r m i w') (by kernel_rfl) (by decide) rfl (by kernel_rfl) (fun _ _ d _ _ h => by cases d <;> exact h) ⟨HI.out.1.trans (Up.drew _), HI.out.2.1.up (Up.drew _), HI.out.2.2⟩ ?_
        refine ⟨_, .slice (some ⟨g, 0, none⟩) k k, some 31, rfl, rfl, Or.inl ⟨rfl, fun w' _ => ?_⟩, ?_⟩
        · go_simp
        refine ⟨_, .int .i64 i, some 32, rfl, rfl, Or.inl ⟨rfl, fun w' _ => ?_⟩, ?_⟩
        · go_simp
        refine ⟨_, .slice (some ⟨b1, o1, none⟩) n1 c1, some 33, rfl, rfl, Or.inl ⟨rfl, fun w' _ => ?_⟩, ?_⟩
        · go_simp
        refine ⟨_, .int .i64 i, some 34, rfl, rfl, Or.inl ⟨rfl, fun w' _ => ?_⟩, ?_⟩
        · go_simp
        refine ⟨_, .pointer (some ⟨b1, o1 + i, none⟩), some 35, rfl, rfl, Or.inl ⟨rfl, fun w' _ => ?_⟩, ?_⟩
        · go_simp
        refine ⟨_, .int .i64 ri, some 36, rfl, rfl, Or.inl ⟨rfl, fun w' hS => ?_⟩, ?_⟩
        · have cr' := cell_up cr hS.1
          have cm' := cell_up cm hS.1
          go_simp
        refine ⟨_, .slice (some ⟨b2, o2, none⟩) n2 c2, some 37, rfl, rfl, Or.inl ⟨rfl, fun w' _ => ?_⟩, ?_⟩
        · go_simp
        refine ⟨_, .int .i64 i, some 38, rfl, rfl, Or.inl ⟨rfl, fun w' _ => ?_⟩, ?_⟩
        · go_simp
        refine ⟨_, .pointer (some ⟨b2, o2 + i, none⟩), some 39, rfl, rfl, Or.inl ⟨rfl, fun w' _ => ?_⟩, ?_⟩
        · go_simp
        refine ⟨_, .int .i64 mi, some 40, rfl, rfl, Or.inl ⟨rfl, fun w' hS => ?_⟩, ?_⟩
        · have cr' := cell_up cr hS.1
          have cm' := cell_up cm hS.1
          go_simp
        refine wpOp_call (o := { dst := some 41, op := Op.call { callee := Callee.value (Operand.func 29), args := #[Operand.tmp 36, Operand.tmp 40], argTypes := #[2, 2] }, type := 71, pos := "near.go:48", after := #[{ on := 5, ground := Ground.data }, { on := 9, ground := Ground.data }], guard := none }) rfl rfl rfl #[.int .i64 ri, .int .i64 mi] (by kernel_rfl) (eg29 _ _) ?_
        refine (t29 ri mi hgd.1 hgd.2 _).mono ?_
        rintro e w4 ⟨rfl, HU⟩
        have HI4 : Hid (NI w g k r m i w4) := ⟨(HI.out.1.trans (Up.drew _)).trans HU.out, (HI.out.2.1.up (Up.drew _)).up HU.out, HI.out.2.2⟩
        refine ⟨_, rfl, HI4.out, ?_⟩
        refine ⟨_, .tuple #[.agg #[.int .i64 (ri % mi), .int .i64 mi], .int .i64 0], some 30, rfl, rfl, Or.inl ⟨rfl, fun w' _ => ?_⟩, ?_⟩
        · go_simp
        refine ⟨_, .agg #[.int .i64 (ri % mi), .int .i64 mi], some 42, rfl, rfl, Or.inl ⟨rfl, fun w' _ => ?_⟩, ?_⟩
        · go_simp
        refine ⟨_, .int .i64 0, some 43, rfl, rfl, Or.inl ⟨rfl, fun w' _ => ?_⟩, ?_⟩
        · go_simp
        refine ⟨_, .pointer (some ⟨g, i * 2, none⟩), some 44, rfl, rfl, Or.inl ⟨rfl, fun w' _ => ?_⟩, ?_⟩
        · go_simp
        refine wpList_storeG (r := (ri % mi)) (m := mi) HI4.out.2.1 HLT.out rfl _ _ rfl (by kernel_rfl) (by kernel_rfl) ?_
        dsimp only
        simp only [Act.put, List.setIfInBounds_toArray, List.set_cons_succ, List.set_cons_zero]
        have HN5 : Hid (NI w g k r m (i + 1) (setG w4 g i (ri % mi) mi)) := HN.out w4 HI4.out
        clear HN HI4 HU
        generalize setG w4 g i (ri % mi) mi = w5 at *
        go_wp2
        go_roundw
        case rel => exact ⟨i + 1, HLT.out, by go_num, HN5⟩
        case measure => have := HLT.out; simp [intOf]; omega
      · have hgd2 : mi < 1 ∨ 1099511627776 < mi := by omega
        have HE : Hid (C = 2) := by
          have hb := rings_bad hE (by rw [hmi]; exact hgd2) (k - (i + 1))
          rw [show i + 1 + (k - (i + 1)) = k by omega] at hb
          show C = 2
          rw [HC.out, hb]; rfl
        clear hU hG hg hE
        go_wp2_with fail
        refine wp_region_ord 15 [(0, none), (1, none), (2, none), (3, none), (4, none), (5, some false), (6, none), (7, none), (8, none), (9, some false), (10, some true), (11, none), (12, none), (13, none), (14, none)] (fun w' => NI w g k r m i w') (by kernel_rfl) (by decide) rfl (by kernel_rfl) (fun _ _ d _ _ h => by cases d <;> exact h) ⟨HI.out.1.trans (Up.drew _), HI.out.2.1.up (Up.drew _), HI.out.2.2⟩ ?_
        refine ⟨_, .slice (some ⟨g, 0, none⟩) k k, some 31, rfl, rfl, Or.inl ⟨rfl, fun w' _ => ?_⟩, ?_⟩
        · go_simp
        refine ⟨_, .int .i64 i, some 32, rfl, rfl, Or.inl ⟨rfl, fun w' _ => ?_⟩, ?_⟩
        · go_simp
        refine ⟨_, .slice (some ⟨b1, o1, none⟩) n1 c1, some 33, rfl, rfl, Or.inl ⟨rfl, fun w' _ => ?_⟩, ?_⟩
        · go_simp
        refine ⟨_, .int .i64 i, some 34, rfl, rfl, Or.inl ⟨rfl, fun w' _ => ?_⟩, ?_⟩
        · go_simp
        refine ⟨_, .pointer (some ⟨b1, o1 + i, none⟩), some 35, rfl, rfl, Or.inl ⟨rfl, fun w' _ => ?_⟩, ?_⟩
        · go_simp
        refine ⟨_, .int .i64 ri, some 36, rfl, rfl, Or.inl ⟨rfl, fun w' hS => ?_⟩, ?_⟩
        · have cr' := cell_up cr hS.1
          have cm' := cell_up cm hS.1
          go_simp
        refine ⟨_, .slice (some ⟨b2, o2, none⟩) n2 c2, some 37, rfl, rfl, Or.inl ⟨rfl, fun w' _ => ?_⟩, ?_⟩
        · go_simp
        refine ⟨_, .int .i64 i, some 38, rfl, rfl, Or.inl ⟨rfl, fun w' _ => ?_⟩, ?_⟩
        · go_simp
        refine ⟨_, .pointer (some ⟨b2, o2 + i, none⟩), some 39, rfl, rfl, Or.inl ⟨rfl, fun w' _ => ?_⟩, ?_⟩
        · go_simp
        refine ⟨_, .int .i64 mi, some 40, rfl, rfl, Or.inl ⟨rfl, fun w' hS => ?_⟩, ?_⟩
        · have cr' := cell_up cr hS.1
          have cm' := cell_up cm hS.1
          go_simp
        refine wpOp_call (o := { dst := some 41, op := Op.call { callee := Callee.value (Operand.func 29), args := #[Operand.tmp 36, Operand.tmp 40], argTypes := #[2, 2] }, type := 71, pos := "near.go:48", after := #[{ on := 5, ground := Ground.data }, { on := 9, ground := Ground.data }], guard := none }) rfl rfl rfl #[.int .i64 ri, .int .i64 mi] (by kernel_rfl) (eg29 _ _) ?_
        refine (t29e ri mi hgd2 _).mono ?_
        rintro e w4 ⟨rfl, HU⟩
        have HI4 : Hid (NI w g k r m i w4) := ⟨(HI.out.1.trans (Up.drew _)).trans HU.out, (HI.out.2.1.up (Up.drew _)).up HU.out, HI.out.2.2⟩
        refine ⟨_, rfl, HI4.out, ?_⟩
        refine ⟨_, .tuple #[.agg #[.int .i64 0, .int .i64 0], .int .i64 2], some 30, rfl, rfl, Or.inl ⟨rfl, fun w' _ => ?_⟩, ?_⟩
        · go_simp
        refine ⟨_, .agg #[.int .i64 0, .int .i64 0], some 42, rfl, rfl, Or.inl ⟨rfl, fun w' _ => ?_⟩, ?_⟩
        · go_simp
        refine ⟨_, .int .i64 2, some 43, rfl, rfl, Or.inl ⟨rfl, fun w' _ => ?_⟩, ?_⟩
        · go_simp
        refine ⟨_, .pointer (some ⟨g, i * 2, none⟩), some 44, rfl, rfl, Or.inl ⟨rfl, fun w' _ => ?_⟩, ?_⟩
        · go_simp
        refine wpList_storeG (r := 0) (m := 0) HI4.out.2.1 HLT.out rfl _ _ rfl (by kernel_rfl) (by kernel_rfl) ?_
        dsimp only
        simp only [Act.put, List.setIfInBounds_toArray, List.set_cons_succ, List.set_cons_zero]
        have HN5 : Hid (Up w (setG w4 g i 0 0)) := HI4.out.1.setG HI4.out.2.2.1 _ _ _
        clear HI4 HU
        generalize setG w4 g i 0 0 = w5 at *
        go_wp2
        go_ret2
        exact Or.inl ⟨by rw [HE.out]; decide, by rw [HE.out]; rfl, HN5⟩
    · obtain rfl : i = k := by omega
      have HE : Hid (C = if bad then 2 else if 4194304 < most then 3 else 0) := by
        show _ = _
        rw [HC.out, if_neg (by rw [hE]; simp)]
      clear hU hG hg hE HC
      cases bad with
      | true =>
        go_wp2
        go_ret2
        have e : C = 2 := by rw [HE.out]; rfl
        exact Or.inl ⟨by rw [e]; decide, by rw [e]; rfl, HI.out.1⟩
      | false =>
        by_cases hb : 4194304 < most
        · go_wp2
          go_ret2
          have e : C = 3 := by rw [HE.out, if_neg (by decide), if_pos (by omega)]
          exact Or.inl ⟨by rw [e]; decide, by rw [e]; rfl, HI.out.1⟩
        · go_wp2
          go_ret2
          have e : C = 0 := by rw [HE.out, if_neg (by decide), if_neg (by omega)]
          exact Or.inr ⟨e, g, rfl, HI.out.1, HI.out.2.1, HI.out.2.2.1⟩
end Go.Proofs.Ytijfmaepoamkgab.Fo

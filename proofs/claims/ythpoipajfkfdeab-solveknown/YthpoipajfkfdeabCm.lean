/- Cancel. -/
import Derived.Test.YthpoipajfkfdeabCl
namespace Go.Proofs.Ythpoipajfkfdeab
open Go.ChangeShapes Go.WideShapes Go.ChangeAt Go.RowKit Go.Fl Ieee
attribute [local go_sem] run_store_float run_store_c call43 call17 run_neg fold_eq fold_ne fold_lt fold_gt abs_eq

theorem wpOp_flD {P : Program} {ops : Array Oper} {Q : Exit → Act → World → Prop} {K : Act → World → Prop} {a : Act} {w : World} {m : Nat} {o : Oper} {op : BinOp} {t1 t2 : TypeId} {x y : Operand} (d : Option Tmp) (ho : ops[m]? = some o) (hd : o.dst = d) (hg : o.guard = none) (hop : o.op = .binOp op t1 x y t2) (p q : Nat) (hx : a.eval x = .float .f64 p) (hy : a.eval y = .float .f64 q) (h4 : op = .add ∨ op = .sub ∨ op = .mul ∨ op = .quo)
    (h : ∀ r n, Hid (ab r = bin op (ab p) (ab q)) → K (a.put d (.float .f64 r)) (w.drewN n)) : wpOp P ops Q m K a w := by
  subst hd
  exact wpOp_fl ho hg hop p q hx hy h4 h
def mLk (T : Nat → Nat → CN) (load k : Nat) : Nat → Nat → CN := fun a b => if a = b ∧ a < k then (bin .add (T a b).1 (ab load), (T a b).2) else T a b
theorem mLk_zero (T : Nat → Nat → CN) (load : Nat) : mLk T load 0 = T := by
  funext a b
  unfold mLk
  rw [if_neg (by omega)]
theorem mLk_step {T : Nat → Nat → CN} {load k : Nat} {v : CN} (hv : v = (bin .add (T k k).1 (ab load), (T k k).2)) : upd2 (mLk T load k) k k v = mLk T load (k + 1) := by
  funext a b
  unfold upd2 mLk
  by_cases e : a = k ∧ b = k
  · obtain ⟨rfl, rfl⟩ := e
    rw [if_pos ⟨rfl, rfl⟩, if_pos ⟨rfl, by omega⟩, hv]
  · rw [if_neg e]
    by_cases e2 : a = b ∧ a < k
    · rw [if_pos e2, if_pos (by omega)]
    · rw [if_neg e2, if_neg (by omega)]
/-- The two lists that Cancel asks at once. -/
def w2c (w : World) (pm : Option Addr) (m cm load : Nat) : World := (w.alloc (.cells #[.complex .f64 load 0] 26)).alloc (.cells #[.slice pm m cm, .slice (some ⟨w.heap.size, 0, none⟩) 1 1] 22)
theorem w2c_up (w : World) (pm : Option Addr) (m cm load : Nat) : Up w (w2c w pm m cm load) := (Up.alloc _ _).trans (Up.alloc _ _)
theorem w2c_tr {w : World} {pm : Option Addr} {m cm load : Nat} {fm : Nat → Nat × Nat} (h : RowV w pm m fm) (hc : m ≤ cm) : TR (w2c w pm m cm load) (some ⟨w.heap.size + 1, 0, none⟩) 2 (fun i => if i = 0 then m else 1) (fun i => if i = 0 then fm else fun _ => (load, 0)) := fun _ => by
  have hs : (w.alloc (.cells #[.complex .f64 load 0] 26)).heap.size = w.heap.size + 1 := by simp
  have c0 : (w2c w pm m cm load).cell? ⟨w.heap.size + 1, 0, none⟩ = some (.slice pm m cm) := by rw [← hs]; exact World.cell?_alloc_at _ _ _ _ rfl
  have c1 : (w2c w pm m cm load).cell? ⟨w.heap.size + 1, 1, none⟩ = some (.slice (some ⟨w.heap.size, 0, none⟩) 1 1) := by rw [← hs]; exact World.cell?_alloc_at _ _ _ _ rfl
  have c2 : (w2c w pm m cm load).cell? ⟨w.heap.size, 0, none⟩ = some (.complex .f64 load 0) := cell_up (World.cell?_alloc_at _ _ _ _ rfl) (Up.alloc _ _)
  refine ⟨w.heap.size + 1, 0, rfl, fun i hi => ?_⟩
  by_cases e : i = 0
  · subst e
    exact ⟨pm, cm, c0, hc, h.up (w2c_up _ _ _ _ _)⟩
  · obtain rfl : i = 1 := by omega
    refine ⟨_, 1, c1, Nat.le_refl _, fun _ => ⟨w.heap.size, 0, rfl, fun j hj => ?_⟩⟩
    have hj' : j < 1 := hj
    obtain rfl : j = 0 := by omega
    exact c2
theorem t13b {w : World} {pm : Option Addr} {m cm load : Nat} {fm : Nat → Nat × Nat} {b : Bool} (h : RowV w pm m fm) (hc : m ≤ cm) (hm : m ≤ 1000000) (hb : (finR fm m && finC (load, 0)) = b) : Calls Try.prog 13 #[.slice (some ⟨w.heap.size + 1, 0, none⟩) 2 2] (w2c w pm m cm load) (BR b (w2c w pm m cm load)) := by
  have := t13 (c := 2) (w2c_tr (load := load) h hc) (by omega) (fun i hi => by by_cases e : i = 0; (rw [if_pos e]; exact hm); (rw [if_neg e]; omega))
  have e : finT (fun i => if i = 0 then m else 1) (fun i => if i = 0 then fm else fun _ => (load, 0)) 2 = b := by
    rw [← hb]
    show ((true && allN (fun j => finC (fm j)) m) && (true && finC (load, 0))) = _
    rw [Bool.true_and, Bool.true_and]; rfl
  rw [e] at this
  exact this
/-- What Cancel leaves where it tells an error. -/
def CE (z : Int) (w : World) (e : Ending) (w' : World) : Prop := e = .returned (.tuple #[.slice none 0 0, .slice none 0 0, .int .i64 z]) ∧ Hid (Up w w')
def otC (mn wv : Nat → CN) (f : Nat → Nat → Nat × Nat) : Nat → (Nat → CN)
  | 0 => mn
  | i + 1 => fun k => subC (otC mn wv f i k) (mulC (wv i) (ab2 (f i k)))
def COk (m n : Nat) (y x : Nat → CN) (w : World) (e : Ending) (w' : World) : Prop := ∃ g h, e = .returned (.tuple #[.slice (some ⟨g, 0, none⟩) m m, .slice (some ⟨h, 0, none⟩) n n, .int .i64 0]) ∧ Hid (XR w.heap.size w' g m y ∧ XR w.heap.size w' h n x) ∧ Hid (Up w w')
theorem XR.copied {b : Nat} {w' : World} {g m : Nat} {d : List (Nat × Nat)} (hd : d.length = m) (hlo : b ≤ g) (hm : m ≤ 1000000) (f : Nat → Nat × Nat) (h : w'.heap[g]? = some (.cells ((splice d 0 (cut f 0 m)).map ce).toArray 26 (0, 0))) : XR b w' g m (fun j => ab2 (f j)) := by
  have hl : (splice d 0 (cut f 0 m)).length = m := by rw [length_splice _ _ _ (by rw [cut_len]; omega)]; exact hd
  refine ⟨⟨_, CRow.of_heap hl hlo hm h, fun j hj => ?_⟩, hlo⟩
  rw [splice_at _ _ _ _ (by rw [cut_len]; omega), cut_len, if_pos ⟨by omega, by omega⟩, getElem!_pos _ _ (by rw [cut_len]; omega)]
  simp [cut]
theorem t6a {w : World} {pm p : Option Addr} {m cm n c load : Nat} {L : Nat → Nat} {f : Nat → Nat → Nat × Nat} (h : TR w p n L f) (hn : n ≤ 1000000) (h1 : longB L m n = false) : Calls Try.prog 6 #[.slice pm m cm, .slice p n c, .float .f64 load] w (CE 5 w) := by
  have T12 : Hid (Calls Try.prog 12 #[.slice p n c, .int .i64 m] w (BR false w)) := t12k h hn h1
  clear h h1
  go_enter Try.func6, Try.ntmps6
  go_wp2_with (go_at_call 12; (with_reducible refine T12.out.mono ?_); rintro e w1 ⟨rfl, hw⟩; subst w1)
  go_ret3
  exact ⟨rfl, Up.refl _⟩
set_option maxHeartbeats 2000000 in
set_option maxRecDepth 20000 in
theorem t6c {w : World} {pm p : Option Addr} {m cm n c load : Nat} {L : Nat → Nat} {fm : Nat → Nat × Nat} {f : Nat → Nat → Nat × Nat} (h : TR w p n L f) (hm : RowV w pm m fm) (hcm : m ≤ cm) (h1 : longB L m n = true) (hn : n ≤ 8) (hm1 : m ≤ 100) (hm0 : 0 < m) (h2 : finT L f n = true) (h3 : (finR fm m && finC (load, 0)) = true) (h4 : ltF (ab load) (ab 0) = true) : Calls Try.prog 6 #[.slice pm m cm, .slice p n c, .float .f64 load] w (CE 6 w) := by
  have HLi : ∀ i, i < n → L i = m := fun i hi => of_decide_eq_true ((allN_iff n).1 h1 i hi)
  have hwid : widN n L ≤ 100 := by unfold widN; split; omega; rw [HLi 0 (by omega)]; exact hm1
  have T12 : Hid (Calls Try.prog 12 #[.slice p n c, .int .i64 m] w (BR true w)) := t12k h (by omega) h1
  have T18 : Hid (Calls Try.prog 18 #[.slice p n c] w (BR false w)) := t18 h hn hwid
  have T13 : Hid (Calls Try.prog 13 #[.slice p n c] w (BR true w)) := by
    have := t13 (c := c) h (by omega) (fun i hi => by rw [HLi i hi]; omega)
    rw [h2] at this
    exact this
  have T13b : Hid (Calls Try.prog 13 #[.slice (some ⟨w.heap.size + 1, 0, none⟩) 2 2] (w2c w pm m cm load) (BR true (w2c w pm m cm load))) := t13b hm hcm (by omega) h3
  have z1 : (n : Int) ≤ 8 := by omega
  have z2 : (m : Int) ≤ 100 := by omega
  clear h hm hcm h1 h2 h3 HLi hwid
  go_enter Try.func6, Try.ntmps6
  go_wp2_with (first
    | (go_at_call 12; (with_reducible refine T12.out.mono ?_); rintro e w1 ⟨rfl, hw⟩; subst w1)
    | (go_at_call 18; (with_reducible refine T18.out.mono ?_); rintro e w1 ⟨rfl, hw⟩; subst w1)
    | (go_at_call 13; (with_reducible refine T13.out.mono ?_); rintro e w1 ⟨rfl, hw⟩; subst w1)
    | (go_at_call 13; (refine T13b.out.mono ?_); rintro e w1 ⟨rfl, hw⟩; subst w1))
  go_ret3
  exact ⟨rfl, w2c_up _ _ _ _ _⟩
theorem solv_of {w2 wr : World} {A B n g load : Nat} {T : Nat → Nat → CN} {y r : Nat → CN} (hE : EQ w2 wr A B n n (fun i => i) (mLk T load n)) (hX : XR w2.heap.size wr g n y) (hY : ∀ i, i < n → y i = r i) : ∃ f fb, TR wr (some ⟨A, 0, none⟩) n (fun _ => n) f ∧ RowV wr (some ⟨g, 0, none⟩) n fb ∧ (∀ i j, i < n → j < n → ab2 (f i j) = mLk T load n i j) ∧ ∀ i, i < n → ab2 (fb i) = r i := by
  obtain ⟨f, h1, h2⟩ := hE.tr
  obtain ⟨d, h3, h4⟩ := hX.rowV
  exact ⟨f, fun j => d[j]!, h1, h3, h2, fun i hi => (h4 i hi).trans (hY i hi)⟩
set_option maxHeartbeats 8000000 in
set_option maxRecDepth 20000 in
theorem t6e {w : World} {pm p : Option Addr} {m cm n c load : Nat} {L : Nat → Nat} {fm : Nat → Nat × Nat} {f : Nat → Nat → Nat × Nat} {mm : Nat} (h : TR w p n L f) (hm : RowV w pm m fm) (hcm : m ≤ cm) (h1 : longB L m n = true) (hn : n ≤ 8) (hm1 : m ≤ 100) (hm0 : 0 < m) (h2 : finT L f n = true) (h3 : (finR fm m && finC (load, 0)) = true) (h4 : ltF (ab load) (ab 0) = false) (hmm : widN n L = mm) (hS : finM (mLk (matT f mm) load n) n = true ∧ finV (fun i => dtC fm (f i) m) n = true ∧ solB (joC (mLk (matT f mm) load n) (fun i => dtC fm (f i) m) n) n (n + 1) = false) : Calls Try.prog 6 #[.slice pm m cm, .slice p n c, .float .f64 load] w (CE 210 w) := by
  have HLi : ∀ i, i < n → L i = m := fun i hi => of_decide_eq_true ((allN_iff n).1 h1 i hi)
  have hwid : widN n L ≤ 100 := by unfold widN; split; omega; rw [HLi 0 (by omega)]; exact hm1
  have T12 : Hid (Calls Try.prog 12 #[.slice p n c, .int .i64 m] w (BR true w)) := t12k h (by omega) h1
  have T18 : Hid (Calls Try.prog 18 #[.slice p n c] w (BR false w)) := t18 h hn hwid
  have T13 : Hid (Calls Try.prog 13 #[.slice p n c] w (BR true w)) := by
    have := t13 (c := c) h (by omega) (fun i hi => by rw [HLi i hi]; omega)
    rw [h2] at this
    exact this
  have T13b : Hid (Calls Try.prog 13 #[.slice (some ⟨w.heap.size + 1, 0, none⟩) 2 2] (w2c w pm m cm load) (BR true (w2c w pm m cm load))) := t13b hm hcm (by omega) h3
  have z1 : (n : Int) ≤ 8 := by omega
  have z2 : (m : Int) ≤ 100 := by omega
  have hwm : 0 < n → widN n L = m := fun q => by unfold widN; rw [if_neg (by omega)]; exact HLi 0 q
  have T8 : Hid (Calls Try.prog 8 #[.slice p n c] (w2c w pm m cm load) (MtR n (matT f mm) (w2c w pm m cm load))) := t8 (h.up (w2c_up _ _ _ _ _)) (by
    by_cases e : n = 0
    · subst e; rfl
    · rw [hwm (by omega)]; exact h1) hmm hn (fun q => by have := hwm q; omega) (by omega)
  clear hwm
  have HS : Hid (TR w p n L f ∧ RowV w pm m fm ∧ (∀ i, i < n → L i = m) ∧ n ≤ 8 ∧ m ≤ 100 ∧ 0 < m) := ⟨h, hm, HLi, hn, hm1, hm0⟩
  obtain ⟨gm, om, rfl, -⟩ := hm hm0
  have HRM : Hid (∀ W, Up w W → RD W gm om m fm) := fun W hu => by
    obtain ⟨g1, o1, e1, h1⟩ := (HS.out.2.1.up hu) HS.out.2.2.2.2.2
    simp only [Option.some.injEq, Addr.mk.injEq, and_true] at e1
    obtain ⟨rfl, rfl⟩ := e1
    exact h1
  have HSOL : Hid (finM (mLk (matT f mm) load n) n = true ∧ finV (fun i => dtC fm (f i) m) n = true ∧ solB (joC (mLk (matT f mm) load n) (fun i => dtC fm (f i) m) n) n (n + 1) = false) := hS
  clear hS
  have HUw : Hid (Up w (w2c w (some ⟨gm, om, none⟩) m cm load)) := w2c_up _ _ _ _ _
  have z3 : n ≤ 1000000 := by omega
  have z4 : m ≤ 1000000 := by omega
  clear h hm hcm h1 h2 h3 HLi hwid hmm hm0
  go_enter Try.func6, Try.ntmps6
  go_wp2_with (first
    | (go_at_call 12; (with_reducible refine T12.out.mono ?_); rintro e w1 ⟨rfl, hw⟩; subst w1)
    | (go_at_call 18; (with_reducible refine T18.out.mono ?_); rintro e w1 ⟨rfl, hw⟩; subst w1)
    | (go_at_call 13; (with_reducible refine T13.out.mono ?_); rintro e w1 ⟨rfl, hw⟩; subst w1)
    | (go_at_call 13; (refine T13b.out.mono ?_); rintro e w1 ⟨rfl, hw⟩; subst w1)
    | (go_at_call 8; (refine T8.out.mono ?_); rintro e w3 ⟨A, B, rfl, HE⟩)
    | ((with_reducible refine upon_makeC z3 ?_); intro g w4 HM))
  have HN : Hid (A ≠ g ∧ B ≠ g ∧ (w2c w (some ⟨gm, om, none⟩) m cm load).heap.size ≤ g) := by
    have h1 := HE.out.ltA
    have h2 := HM.out.1
    have h3 := RowKit.Below.size HE.out.up
    exact ⟨by omega, by omega, by omega⟩
  generalize w2c w (some ⟨gm, om, none⟩) m cm load = w2 at *
  obtain ⟨T0, hT0⟩ : ∃ T, matT f mm = T := ⟨_, rfl⟩
  rw [hT0] at HE HSOL
  have hxT : matT f mm = T0 := hT0
  have HXT : Hid (matT f mm = T0) := hxT
  clear hxT
  have HE0 : Hid (EQ w2 w4 A B n n (fun i => i) (mLk T0 load 0)) := by rw [mLk_zero]; exact HE.out.mono HM.out.2.2
  have HX0 : Hid (XR w2.heap.size w4 g n (fun _ => (ab 0, ab 0))) := (XR.made HM.out).down (RowKit.Below.size HE.out.up)
  clear HE HM T8 T13b T13 T18 T12 hT0
  go_loopw [12, 13, 61] (fun _ _ vi wr => ∃ (k : Nat) (y : Nat → CN), k ≤ n ∧ vi = .int .i64 k ∧ Hid (EQ w2 wr A B n n (fun i => i) (mLk T0 load k)) ∧ Hid (XR w2.heap.size wr g n y) ∧ Hid (∀ i, i < k → y i = dtC fm (f i) m)) (fun _ _ vi _ => n - (intOf vi).toNat)
  case atStart => exact ⟨0, _, by omega, rfl, HE0, HX0, fun i hi => by omega⟩
  case round =>
    clear HE0 HX0
    obtain ⟨k, y, hk, rfl, HE, HX, HY⟩ := hrel
    rename World => wr
    have HUr : Hid (Up w wr) := HUw.out.trans HE.out.up
    by_cases hlt : k < n
    · obtain ⟨b0, o0, rfl, hr⟩ := (HS.out.1.up HUr.out) (by omega)
      obtain ⟨q, cq, c1, -, hrv⟩ := hr k hlt
      rw [HS.out.2.2.1 k hlt] at c1 hrv
      obtain ⟨gk, ok, rfl, hrd⟩ := hrv HS.out.2.2.2.2.2
      have HRK0 : Hid (∀ W, Up w W → RD W gk ok m (f k)) := fun W hu => by
        obtain ⟨b1, o1, e1, hr1⟩ := HS.out.1 (by omega)
        simp only [Option.some.injEq, Addr.mk.injEq, and_true] at e1
        obtain ⟨rfl, rfl⟩ := e1
        obtain ⟨q1, cq1, c5, -, hrv1⟩ := hr1 k hlt
        have c6 := cell_up c5 HUr.out
        rw [c1] at c6
        simp only [Option.some.injEq, Value.slice.injEq] at c6
        rw [← c6.1, ← c6.2.1] at hrv1
        obtain ⟨g3, o3, e3, hr3⟩ := hrv1 HS.out.2.2.2.2.2
        simp only [Option.some.injEq, Addr.mk.injEq, and_true] at e3
        obtain ⟨rfl, rfl⟩ := e3
        exact hr3.up hu
      have c0 : wr.cell? ⟨A, k, none⟩ = some (.slice (some ⟨B, k * n, none⟩) n n) := HE.out.row hlt
      obtain ⟨x1, y1', c2, e2, -⟩ := HE.out.cell (i := k) (j := k) hlt hlt
      have c3 : wr.cell? ⟨B, k * n + k, none⟩ = some (.complex .f64 x1 y1') := c2
      have E2 : Hid ((ab x1, ab y1') = T0 k k) := by show _ = _; rw [e2]; unfold mLk; rw [if_neg (by omega)]
      obtain ⟨X, hX⟩ : ∃ X, k * n = X := ⟨_, rfl⟩
      have HXX : Hid (k * n = X) := hX
      rw [hX] at c0 c3
      have y1 : (k : Int) < (n : Int) := by omega
      clear hr hrv hrd hX c2 e2
      go_wp2_with fail
      refine wp_region_shut 24 [(0, none), (1, none), (2, none), (3, some false), (4, none), (5, none), (6, none), (7, none), (8, some false), (9, none), (10, none), (11, some false), (12, none), (13, none), (15, none), (16, none), (17, none), (18, some false), (19, none), (20, none), (21, some false), (22, none), (14, some true), (23, none)] (fun w9 => Up wr w9) (by kernel_rfl) (by decide) rfl (by kernel_rfl) (fun _ _ d _ _ h => by cases d <;> exact h) (Up.drewN wr 1) ?_
      refine OrdS.looks (.slice (some ⟨A, 0, none⟩) n n) (some 66) _ rfl rfl (Or.inl ⟨by kernel_rfl, fun w' hS => ?_⟩) ?_
      · go_simp
      refine OrdS.looks (.int .i64 k) (some 67) _ rfl rfl (Or.inl ⟨by kernel_rfl, fun w' hS => ?_⟩) ?_
      · go_simp
      refine OrdS.looks (.pointer (some ⟨A, k, none⟩)) (some 68) _ rfl rfl (Or.inl ⟨by kernel_rfl, fun w' hS => ?_⟩) ?_
      · go_simp
      refine OrdS.reads (.slice (some ⟨B, X, none⟩) n n) (some 69) _ rfl rfl (Or.inl ⟨by kernel_rfl, fun w' hS => ?_⟩) ?_
      · have l0 := cell_up c0 hS
        go_simp
      refine OrdS.looks (.int .i64 k) (some 70) _ rfl rfl (Or.inl ⟨by kernel_rfl, fun w' hS => ?_⟩) ?_
      · go_simp
      refine OrdS.looks (.slice (some ⟨A, 0, none⟩) n n) (some 71) _ rfl rfl (Or.inl ⟨by kernel_rfl, fun w' hS => ?_⟩) ?_
      · go_simp
      refine OrdS.looks (.int .i64 k) (some 72) _ rfl rfl (Or.inl ⟨by kernel_rfl, fun w' hS => ?_⟩) ?_
      · go_simp
      refine OrdS.looks (.pointer (some ⟨A, k, none⟩)) (some 73) _ rfl rfl (Or.inl ⟨by kernel_rfl, fun w' hS => ?_⟩) ?_
      · go_simp
      refine OrdS.reads (.slice (some ⟨B, X, none⟩) n n) (some 74) _ rfl rfl (Or.inl ⟨by kernel_rfl, fun w' hS => ?_⟩) ?_
      · have l0 := cell_up c0 hS
        go_simp
      refine OrdS.looks (.int .i64 k) (some 75) _ rfl rfl (Or.inl ⟨by kernel_rfl, fun w' hS => ?_⟩) ?_
      · go_simp
      refine OrdS.looks (.pointer (some ⟨B, X + k, none⟩)) (some 76) _ rfl rfl (Or.inl ⟨by kernel_rfl, fun w' hS => ?_⟩) ?_
      · go_simp
      refine OrdS.reads (.complex .f64 x1 y1') (some 77) _ rfl rfl (Or.inl ⟨by kernel_rfl, fun w' hS => ?_⟩) ?_
      · have l0 := cell_up c3 hS
        go_simp
      refine OrdS.looks (.float .f64 x1) (some 78) _ rfl rfl (Or.inl ⟨by kernel_rfl, fun w' hS => ?_⟩) ?_
      · go_simp
      refine OrdS.looks (.float .f64 load) (some 79) _ rfl rfl (Or.inl ⟨by kernel_rfl, fun w' hS => ?_⟩) ?_
      · go_simp
      refine OrdS.looks (.slice (some ⟨A, 0, none⟩) n n) (some 81) _ rfl rfl (Or.inl ⟨by kernel_rfl, fun w' hS => ?_⟩) ?_
      · go_simp
      refine OrdS.looks (.int .i64 k) (some 82) _ rfl rfl (Or.inl ⟨by kernel_rfl, fun w' hS => ?_⟩) ?_
      · go_simp
      refine OrdS.looks (.pointer (some ⟨A, k, none⟩)) (some 83) _ rfl rfl (Or.inl ⟨by kernel_rfl, fun w' hS => ?_⟩) ?_
      · go_simp
      refine OrdS.reads (.slice (some ⟨B, X, none⟩) n n) (some 84) _ rfl rfl (Or.inl ⟨by kernel_rfl, fun w' hS => ?_⟩) ?_
      · have l0 := cell_up c0 hS
        go_simp
      refine OrdS.looks (.int .i64 k) (some 85) _ rfl rfl (Or.inl ⟨by kernel_rfl, fun w' hS => ?_⟩) ?_
      · go_simp
      refine OrdS.looks (.pointer (some ⟨B, X + k, none⟩)) (some 86) _ rfl rfl (Or.inl ⟨by kernel_rfl, fun w' hS => ?_⟩) ?_
      · go_simp
      refine OrdS.reads (.complex .f64 x1 y1') (some 87) _ rfl rfl (Or.inl ⟨by kernel_rfl, fun w' hS => ?_⟩) ?_
      · have l0 := cell_up c3 hS
        go_simp
      refine OrdS.looks (.float .f64 y1') (some 88) _ rfl rfl (Or.inl ⟨by kernel_rfl, fun w' hS => ?_⟩) ?_
      · go_simp
      simp only [Act.put, List.setIfInBounds_toArray, List.set_cons_succ, List.set_cons_zero]
      refine OrdS.does ?_
      refine wpOp_flD (some 80) rfl rfl rfl rfl x1 load (by kernel_rfl) (by kernel_rfl) (by simp) ?_
      intro ar ka HA
      have HU6 : Hid (Up wr (wr.drew.drewN ka)) := (Up.drewN wr 1).trans (Up.drewN _ _)
      refine ⟨HU6.out, ?_⟩
      refine OrdS.looks (.complex .f64 ar y1') (some 89) _ rfl rfl (Or.inl ⟨by kernel_rfl, fun w' hS => ?_⟩) ?_
      · go_simp
      refine OrdS.ends ?_
      simp only [List.drop_succ_cons, List.drop_zero, Act.put, List.setIfInBounds_toArray, List.set_cons_succ, List.set_cons_zero]
      have HE5 : Hid (EQ w2 (wr.drew.drewN ka) A B n n (fun i => i) (mLk T0 load k)) := HE.out.mono HU6.out
      have HX5 : Hid (XR w2.heap.size (wr.drew.drewN ka) g n y) := HX.out.up HU6.out
      generalize wr.drew.drewN ka = w5 at *
      obtain ⟨x9, y9, c9, -, f9⟩ := HE5.out.cell (i := k) (j := k) hlt hlt
      have c9' : (w5.cell? ⟨B, X + k, none⟩).isSome = true := by rw [← HXX.out, c9]; rfl
      have f9' : w5.frozen? ⟨B, X + k, none⟩ = false := by rw [← HXX.out]; exact f9
      have HE6 : Hid (EQ w2 (w5.setCell ⟨B, X + k, none⟩ (.complex .f64 ar y1')) A B n n (fun i => i) (mLk T0 load (k + 1))) := by
        have := HE5.out.put (i := k) (j := k) hlt hlt ar y1'
        rw [mLk_step (by rw [HA.out, ← E2.out])] at this
        rw [← HXX.out]; exact this
      have HX6 : Hid (XR w2.heap.size (w5.setCell ⟨B, X + k, none⟩ (.complex .f64 ar y1')) g n y) := by
        obtain ⟨d, hd, -⟩ := HE5.out.all
        exact HX5.out.far (hd.put (X + k) ar y1').2 (Ne.symm HN.out.2.1)
      have T19 : Hid (Calls Try.prog 19 #[.slice (some ⟨gm, om, none⟩) m cm, .slice (some ⟨gk, ok, none⟩) m cq] (w5.setCell ⟨B, X + k, none⟩ (.complex .f64 ar y1')) fun e w' => ∃ r i, e = .returned (.complex .f64 r i) ∧ Hid ((ab r, ab i) = dtC fm (f k) m) ∧ Hid (Up (w5.setCell ⟨B, X + k, none⟩ (.complex .f64 ar y1')) w')) := t19c (HRM.out _ (HUw.out.trans HE6.out.up)) (HRK0.out _ (HUw.out.trans HE6.out.up)) z4
      clear HE HX HE5 HX5 c9 f9 c0 c3 HU6
      go_wp2_with (go_at_call 19; (with_reducible refine T19.out.mono ?_); rintro e w7 ⟨dr, di, rfl, HD, U7⟩; (have HX7 : Hid (XR w2.heap.size w7 g n y) := HX6.out.up U7.out); obtain ⟨x8, y8, c8, -, f8⟩ := HX7.out.cell hlt; (have c8' : (w7.cell? ⟨g, k, none⟩).isSome = true := by rw [c8]; rfl))
      obtain ⟨HP1, HP2⟩ := HX7.out.put hlt dr di
      go_roundw
      case rel =>
        refine ⟨k + 1, _, by omega, by go_num, (HE6.out.mono U7.out).far HP2 HN.out.1 HN.out.2.1 HN.out.2.2, HP1, fun i hi => ?_⟩
        by_cases e : i = k
        · subst e
          rw [if_pos rfl, HD.out]
        · rw [if_neg e]; exact HY.out i (by omega)
      case measure => simp [intOf]; omega
    · obtain rfl : k = n := by omega
      obtain ⟨F, FB, s1, s2, s3, s4⟩ := solv_of HE.out HX.out HY.out
      have T4 : Hid (Calls Try.prog 4 #[.slice (some ⟨A, 0, none⟩) k k, .slice (some ⟨g, 0, none⟩) k k] wr (SE 210 wr)) := s4e s1 s2 (Nat.le_refl _) s3 s4 (by have := HS.out.2.2.2.1; omega) HSOL.out.1 HSOL.out.2.1 HSOL.out.2.2
      clear s1 s2 s3 s4
      go_wp2_with (go_at_call 4; (with_reducible refine T4.out.mono ?_); rintro e w8 ⟨rfl, U8⟩)
      go_ret3
      exact ⟨rfl, HUr.out.trans U8.out⟩
set_option maxHeartbeats 8000000 in
set_option maxRecDepth 20000 in
theorem t6g {w : World} {pm p : Option Addr} {m cm n c load : Nat} {L : Nat → Nat} {fm : Nat → Nat × Nat} {f : Nat → Nat → Nat × Nat} {mm : Nat} (h : TR w p n L f) (hm : RowV w pm m fm) (hcm : m ≤ cm) (h1 : longB L m n = true) (hn : n ≤ 8) (hm1 : m ≤ 100) (hm0 : 0 < m) (h2 : finT L f n = true) (h3 : (finR fm m && finC (load, 0)) = true) (h4 : ltF (ab load) (ab 0) = false) (hmm : widN n L = mm) (hS : finM (mLk (matT f mm) load n) n = true ∧ finV (fun i => dtC fm (f i) m) n = true ∧ solB (joC (mLk (matT f mm) load n) (fun i => dtC fm (f i) m) n) n (n + 1) = true ∧ finV (xC (mLk (matT f mm) load n) (fun i => dtC fm (f i) m) n) n = true) : Calls Try.prog 6 #[.slice pm m cm, .slice p n c, .float .f64 load] w (COk m n (otC (fun j => ab2 (fm j)) (xC (mLk (matT f mm) load n) (fun i => dtC fm (f i) m) n) f n) (xC (mLk (matT f mm) load n) (fun i => dtC fm (f i) m) n) w) := by
  have HLi : ∀ i, i < n → L i = m := fun i hi => of_decide_eq_true ((allN_iff n).1 h1 i hi)
  have hwid : widN n L ≤ 100 := by unfold widN; split; omega; rw [HLi 0 (by omega)]; exact hm1
  have T12 : Hid (Calls Try.prog 12 #[.slice p n c, .int .i64 m] w (BR true w)) := t12k h (by omega) h1
  have T18 : Hid (Calls Try.prog 18 #[.slice p n c] w (BR false w)) := t18 h hn hwid
  have T13 : Hid (Calls Try.prog 13 #[.slice p n c] w (BR true w)) := by
    have := t13 (c := c) h (by omega) (fun i hi => by rw [HLi i hi]; omega)
    rw [h2] at this
    exact this
  have T13b : Hid (Calls Try.prog 13 #[.slice (some ⟨w.heap.size + 1, 0, none⟩) 2 2] (w2c w pm m cm load) (BR true (w2c w pm m cm load))) := t13b hm hcm (by omega) h3
  have z1 : (n : Int) ≤ 8 := by omega
  have z2 : (m : Int) ≤ 100 := by omega
  have hwm : 0 < n → widN n L = m := fun q => by unfold widN; rw [if_neg (by omega)]; exact HLi 0 q
  have T8 : Hid (Calls Try.prog 8 #[.slice p n c] (w2c w pm m cm load) (MtR n (matT f mm) (w2c w pm m cm load))) := t8 (h.up (w2c_up _ _ _ _ _)) (by
    by_cases e : n = 0
    · subst e; rfl
    · rw [hwm (by omega)]; exact h1) hmm hn (fun q => by have := hwm q; omega) (by omega)
  clear hwm
  have HS : Hid (TR w p n L f ∧ RowV w pm m fm ∧ (∀ i, i < n → L i = m) ∧ n ≤ 8 ∧ m ≤ 100 ∧ 0 < m) := ⟨h, hm, HLi, hn, hm1, hm0⟩
  obtain ⟨gm, om, rfl, -⟩ := hm hm0
  have HRM : Hid (∀ W, Up w W → RD W gm om m fm) := fun W hu => by
    obtain ⟨g1, o1, e1, h1⟩ := (HS.out.2.1.up hu) HS.out.2.2.2.2.2
    simp only [Option.some.injEq, Addr.mk.injEq, and_true] at e1
    obtain ⟨rfl, rfl⟩ := e1
    exact h1
  have HSOL : Hid (finM (mLk (matT f mm) load n) n = true ∧ finV (fun i => dtC fm (f i) m) n = true ∧ solB (joC (mLk (matT f mm) load n) (fun i => dtC fm (f i) m) n) n (n + 1) = true ∧ finV (xC (mLk (matT f mm) load n) (fun i => dtC fm (f i) m) n) n = true) := hS
  clear hS
  have HUw : Hid (Up w (w2c w (some ⟨gm, om, none⟩) m cm load)) := w2c_up _ _ _ _ _
  have z3 : n ≤ 1000000 := by omega
  have z4 : m ≤ 1000000 := by omega
  clear h hm hcm h1 h2 h3 HLi hwid hmm hm0
  go_enter Try.func6, Try.ntmps6
  go_wp2_with (first
    | (go_at_call 12; (with_reducible refine T12.out.mono ?_); rintro e w1 ⟨rfl, hw⟩; subst w1)
    | (go_at_call 18; (with_reducible refine T18.out.mono ?_); rintro e w1 ⟨rfl, hw⟩; subst w1)
    | (go_at_call 13; (with_reducible refine T13.out.mono ?_); rintro e w1 ⟨rfl, hw⟩; subst w1)
    | (go_at_call 13; (refine T13b.out.mono ?_); rintro e w1 ⟨rfl, hw⟩; subst w1)
    | (go_at_call 8; (refine T8.out.mono ?_); rintro e w3 ⟨A, B, rfl, HE⟩)
    | ((with_reducible refine upon_makeC z3 ?_); intro g w4 HM))
  have HN : Hid (A ≠ g ∧ B ≠ g ∧ (w2c w (some ⟨gm, om, none⟩) m cm load).heap.size ≤ g) := by
    have h1 := HE.out.ltA
    have h2 := HM.out.1
    have h3 := RowKit.Below.size HE.out.up
    exact ⟨by omega, by omega, by omega⟩
  generalize w2c w (some ⟨gm, om, none⟩) m cm load = w2 at *
  obtain ⟨T0, hT0⟩ : ∃ T, matT f mm = T := ⟨_, rfl⟩
  rw [hT0] at HE HSOL
  have hxT : matT f mm = T0 := hT0
  have HXT : Hid (matT f mm = T0) := hxT
  clear hxT
  have HE0 : Hid (EQ w2 w4 A B n n (fun i => i) (mLk T0 load 0)) := by rw [mLk_zero]; exact HE.out.mono HM.out.2.2
  have HX0 : Hid (XR w2.heap.size w4 g n (fun _ => (ab 0, ab 0))) := (XR.made HM.out).down (RowKit.Below.size HE.out.up)
  clear HE HM T8 T13b T13 T18 T12 hT0
  go_loopw [12, 13, 61] (fun _ _ vi wr => ∃ (k : Nat) (y : Nat → CN), k ≤ n ∧ vi = .int .i64 k ∧ Hid (EQ w2 wr A B n n (fun i => i) (mLk T0 load k)) ∧ Hid (XR w2.heap.size wr g n y) ∧ Hid (∀ i, i < k → y i = dtC fm (f i) m)) (fun _ _ vi _ => n - (intOf vi).toNat)
  case atStart => exact ⟨0, _, by omega, rfl, HE0, HX0, fun i hi => by omega⟩
  case round =>
    clear HE0 HX0
    obtain ⟨k, y, hk, rfl, HE, HX, HY⟩ := hrel
    rename World => wr
    have HUr : Hid (Up w wr) := HUw.out.trans HE.out.up
    by_cases hlt : k < n
    · obtain ⟨b0, o0, rfl, hr⟩ := (HS.out.1.up HUr.out) (by omega)
      obtain ⟨q, cq, c1, -, hrv⟩ := hr k hlt
      rw [HS.out.2.2.1 k hlt] at c1 hrv
      obtain ⟨gk, ok, rfl, hrd⟩ := hrv HS.out.2.2.2.2.2
      have HRK0 : Hid (∀ W, Up w W → RD W gk ok m (f k)) := fun W hu => by
        obtain ⟨b1, o1, e1, hr1⟩ := HS.out.1 (by omega)
        simp only [Option.some.injEq, Addr.mk.injEq, and_true] at e1
        obtain ⟨rfl, rfl⟩ := e1
        obtain ⟨q1, cq1, c5, -, hrv1⟩ := hr1 k hlt
        have c6 := cell_up c5 HUr.out
        rw [c1] at c6
        simp only [Option.some.injEq, Value.slice.injEq] at c6
        rw [← c6.1, ← c6.2.1] at hrv1
        obtain ⟨g3, o3, e3, hr3⟩ := hrv1 HS.out.2.2.2.2.2
        simp only [Option.some.injEq, Addr.mk.injEq, and_true] at e3
        obtain ⟨rfl, rfl⟩ := e3
        exact hr3.up hu
      have c0 : wr.cell? ⟨A, k, none⟩ = some (.slice (some ⟨B, k * n, none⟩) n n) := HE.out.row hlt
      obtain ⟨x1, y1', c2, e2, -⟩ := HE.out.cell (i := k) (j := k) hlt hlt
      have c3 : wr.cell? ⟨B, k * n + k, none⟩ = some (.complex .f64 x1 y1') := c2
      have E2 : Hid ((ab x1, ab y1') = T0 k k) := by show _ = _; rw [e2]; unfold mLk; rw [if_neg (by omega)]
      obtain ⟨X, hX⟩ : ∃ X, k * n = X := ⟨_, rfl⟩
      have HXX : Hid (k * n = X) := hX
      rw [hX] at c0 c3
      have y1 : (k : Int) < (n : Int) := by omega
      clear hr hrv hrd hX c2 e2
      go_wp2_with fail
      refine wp_region_shut 24 [(0, none), (1, none), (2, none), (3, some false), (4, none), (5, none), (6, none), (7, none), (8, some false), (9, none), (10, none), (11, some false), (12, none), (13, none), (15, none), (16, none), (17, none), (18, some false), (19, none), (20, none), (21, some false), (22, none), (14, some true), (23, none)] (fun w9 => Up wr w9) (by kernel_rfl) (by decide) rfl (by kernel_rfl) (fun _ _ d _ _ h => by cases d <;> exact h) (Up.drewN wr 1) ?_
      refine OrdS.looks (.slice (some ⟨A, 0, none⟩) n n) (some 66) _ rfl rfl (Or.inl ⟨by kernel_rfl, fun w' hS => ?_⟩) ?_
      · go_simp
      refine OrdS.looks (.int .i64 k) (some 67) _ rfl rfl (Or.inl ⟨by kernel_rfl, fun w' hS => ?_⟩) ?_
      · go_simp
      refine OrdS.looks (.pointer (some ⟨A, k, none⟩)) (some 68) _ rfl rfl (Or.inl ⟨by kernel_rfl, fun w' hS => ?_⟩) ?_
      · go_simp
      refine OrdS.reads (.slice (some ⟨B, X, none⟩) n n) (some 69) _ rfl rfl (Or.inl ⟨by kernel_rfl, fun w' hS => ?_⟩) ?_
      · have l0 := cell_up c0 hS
        go_simp
      refine OrdS.looks (.int .i64 k) (some 70) _ rfl rfl (Or.inl ⟨by kernel_rfl, fun w' hS => ?_⟩) ?_
      · go_simp
      refine OrdS.looks (.slice (some ⟨A, 0, none⟩) n n) (some 71) _ rfl rfl (Or.inl ⟨by kernel_rfl, fun w' hS => ?_⟩) ?_
      · go_simp
      refine OrdS.looks (.int .i64 k) (some 72) _ rfl rfl (Or.inl ⟨by kernel_rfl, fun w' hS => ?_⟩) ?_
      · go_simp
      refine OrdS.looks (.pointer (some ⟨A, k, none⟩)) (some 73) _ rfl rfl (Or.inl ⟨by kernel_rfl, fun w' hS => ?_⟩) ?_
      · go_simp
      refine OrdS.reads (.slice (some ⟨B, X, none⟩) n n) (some 74) _ rfl rfl (Or.inl ⟨by kernel_rfl, fun w' hS => ?_⟩) ?_
      · have l0 := cell_up c0 hS
        go_simp
      refine OrdS.looks (.int .i64 k) (some 75) _ rfl rfl (Or.inl ⟨by kernel_rfl, fun w' hS => ?_⟩) ?_
      · go_simp
      refine OrdS.looks (.pointer (some ⟨B, X + k, none⟩)) (some 76) _ rfl rfl (Or.inl ⟨by kernel_rfl, fun w' hS => ?_⟩) ?_
      · go_simp
      refine OrdS.reads (.complex .f64 x1 y1') (some 77) _ rfl rfl (Or.inl ⟨by kernel_rfl, fun w' hS => ?_⟩) ?_
      · have l0 := cell_up c3 hS
        go_simp
      refine OrdS.looks (.float .f64 x1) (some 78) _ rfl rfl (Or.inl ⟨by kernel_rfl, fun w' hS => ?_⟩) ?_
      · go_simp
      refine OrdS.looks (.float .f64 load) (some 79) _ rfl rfl (Or.inl ⟨by kernel_rfl, fun w' hS => ?_⟩) ?_
      · go_simp
      refine OrdS.looks (.slice (some ⟨A, 0, none⟩) n n) (some 81) _ rfl rfl (Or.inl ⟨by kernel_rfl, fun w' hS => ?_⟩) ?_
      · go_simp
      refine OrdS.looks (.int .i64 k) (some 82) _ rfl rfl (Or.inl ⟨by kernel_rfl, fun w' hS => ?_⟩) ?_
      · go_simp
      refine OrdS.looks (.pointer (some ⟨A, k, none⟩)) (some 83) _ rfl rfl (Or.inl ⟨by kernel_rfl, fun w' hS => ?_⟩) ?_
      · go_simp
      refine OrdS.reads (.slice (some ⟨B, X, none⟩) n n) (some 84) _ rfl rfl (Or.inl ⟨by kernel_rfl, fun w' hS => ?_⟩) ?_
      · have l0 := cell_up c0 hS
        go_simp
      refine OrdS.looks (.int .i64 k) (some 85) _ rfl rfl (Or.inl ⟨by kernel_rfl, fun w' hS => ?_⟩) ?_
      · go_simp
      refine OrdS.looks (.pointer (some ⟨B, X + k, none⟩)) (some 86) _ rfl rfl (Or.inl ⟨by kernel_rfl, fun w' hS => ?_⟩) ?_
      · go_simp
      refine OrdS.reads (.complex .f64 x1 y1') (some 87) _ rfl rfl (Or.inl ⟨by kernel_rfl, fun w' hS => ?_⟩) ?_
      · have l0 := cell_up c3 hS
        go_simp
      refine OrdS.looks (.float .f64 y1') (some 88) _ rfl rfl (Or.inl ⟨by kernel_rfl, fun w' hS => ?_⟩) ?_
      · go_simp
      simp only [Act.put, List.setIfInBounds_toArray, List.set_cons_succ, List.set_cons_zero]
      refine OrdS.does ?_
      refine wpOp_flD (some 80) rfl rfl rfl rfl x1 load (by kernel_rfl) (by kernel_rfl) (by simp) ?_
      intro ar ka HA
      have HU6 : Hid (Up wr (wr.drew.drewN ka)) := (Up.drewN wr 1).trans (Up.drewN _ _)
      refine ⟨HU6.out, ?_⟩
      refine OrdS.looks (.complex .f64 ar y1') (some 89) _ rfl rfl (Or.inl ⟨by kernel_rfl, fun w' hS => ?_⟩) ?_
      · go_simp
      refine OrdS.ends ?_
      simp only [List.drop_succ_cons, List.drop_zero, Act.put, List.setIfInBounds_toArray, List.set_cons_succ, List.set_cons_zero]
      have HE5 : Hid (EQ w2 (wr.drew.drewN ka) A B n n (fun i => i) (mLk T0 load k)) := HE.out.mono HU6.out
      have HX5 : Hid (XR w2.heap.size (wr.drew.drewN ka) g n y) := HX.out.up HU6.out
      generalize wr.drew.drewN ka = w5 at *
      obtain ⟨x9, y9, c9, -, f9⟩ := HE5.out.cell (i := k) (j := k) hlt hlt
      have c9' : (w5.cell? ⟨B, X + k, none⟩).isSome = true := by rw [← HXX.out, c9]; rfl
      have f9' : w5.frozen? ⟨B, X + k, none⟩ = false := by rw [← HXX.out]; exact f9
      have HE6 : Hid (EQ w2 (w5.setCell ⟨B, X + k, none⟩ (.complex .f64 ar y1')) A B n n (fun i => i) (mLk T0 load (k + 1))) := by
        have := HE5.out.put (i := k) (j := k) hlt hlt ar y1'
        rw [mLk_step (by rw [HA.out, ← E2.out])] at this
        rw [← HXX.out]; exact this
      have HX6 : Hid (XR w2.heap.size (w5.setCell ⟨B, X + k, none⟩ (.complex .f64 ar y1')) g n y) := by
        obtain ⟨d, hd, -⟩ := HE5.out.all
        exact HX5.out.far (hd.put (X + k) ar y1').2 (Ne.symm HN.out.2.1)
      have T19 : Hid (Calls Try.prog 19 #[.slice (some ⟨gm, om, none⟩) m cm, .slice (some ⟨gk, ok, none⟩) m cq] (w5.setCell ⟨B, X + k, none⟩ (.complex .f64 ar y1')) fun e w' => ∃ r i, e = .returned (.complex .f64 r i) ∧ Hid ((ab r, ab i) = dtC fm (f k) m) ∧ Hid (Up (w5.setCell ⟨B, X + k, none⟩ (.complex .f64 ar y1')) w')) := t19c (HRM.out _ (HUw.out.trans HE6.out.up)) (HRK0.out _ (HUw.out.trans HE6.out.up)) z4
      clear HE HX HE5 HX5 c9 f9 c0 c3 HU6
      go_wp2_with (go_at_call 19; (with_reducible refine T19.out.mono ?_); rintro e w7 ⟨dr, di, rfl, HD, U7⟩; (have HX7 : Hid (XR w2.heap.size w7 g n y) := HX6.out.up U7.out); obtain ⟨x8, y8, c8, -, f8⟩ := HX7.out.cell hlt; (have c8' : (w7.cell? ⟨g, k, none⟩).isSome = true := by rw [c8]; rfl))
      obtain ⟨HP1, HP2⟩ := HX7.out.put hlt dr di
      go_roundw
      case rel =>
        refine ⟨k + 1, _, by omega, by go_num, (HE6.out.mono U7.out).far HP2 HN.out.1 HN.out.2.1 HN.out.2.2, HP1, fun i hi => ?_⟩
        by_cases e : i = k
        · subst e
          rw [if_pos rfl, HD.out]
        · rw [if_neg e]; exact HY.out i (by omega)
      case measure => simp [intOf]; omega
    · obtain rfl : k = n := by omega
      obtain ⟨F, FB, s1, s2, s3, s4⟩ := solv_of HE.out HX.out HY.out
      obtain ⟨xs, hxs⟩ : ∃ xs, xC (mLk T0 load k) (fun i => dtC fm (f i) m) k = xs := ⟨_, rfl⟩
      have T4 : Hid (Calls Try.prog 4 #[.slice (some ⟨A, 0, none⟩) k k, .slice (some ⟨g, 0, none⟩) k k] wr (SOk k xs wr)) := by rw [← hxs]; exact s4g s1 s2 (Nat.le_refl _) s3 s4 (by have := HS.out.2.2.2.1; omega) HSOL.out.1 HSOL.out.2.1 HSOL.out.2.2.1 HSOL.out.2.2.2
      have HXS : Hid (xC (mLk T0 load k) (fun i => dtC fm (f i) m) k = xs) := hxs
      clear s1 s2 s3 s4 hxs HE HX HY
      go_upto_region 19 with (first
        | (go_at_call 4; (with_reducible refine T4.out.mono ?_); rintro e w8 ⟨gw, rfl, HW, U8⟩)
        | ((with_reducible refine upon_makeC z4 ?_); intro go w9 HM9))
      have HH : Hid (w9.heap[go]? = some (.cells ((List.replicate m (0, 0)).map ce).toArray 26 (0, 0))) := HM9.out.2.1.heap
      have HU9 : Hid (Up w w9) := (HUr.out.trans U8.out).trans HM9.out.2.2
      have HRM9 : Hid (RD w9 gm om m fm) := HRM.out _ HU9.out
      have HW9 : Hid (XR w.heap.size w9 gw k xs ∧ go ≠ gw ∧ w.heap.size ≤ go) := by
        have h1 := HW.out.lt
        have h2 := HM9.out.1
        have h3 := RowKit.Below.size (HUr.out.trans U8.out)
        exact ⟨(HW.out.up HM9.out.2.2).down (RowKit.Below.size HUr.out), by omega, by omega⟩
      have hfit : 0 + m ≤ (List.replicate m ((0, 0) : Nat × Nat)).length := by rw [List.length_replicate]; omega
      have HF : Hid (0 + m ≤ (List.replicate m ((0, 0) : Nat × Nat)).length) := hfit
      clear HW HM9 T4 U8 hfit
      go_wp2_with ((with_reducible refine upon_copy (s := 0) HH HRM9 rfl (by omega) (Nat.le_refl _) HF.out ?_); intro w10 HC HB)
      have HO : Hid (XR w.heap.size w10 go m (otC (fun j => ab2 (fm j)) xs f 0)) := XR.copied (List.length_replicate) HW9.out.2.2 z4 fm HC.out
      have HV : Hid (XR w.heap.size w10 gw k xs) := HW9.out.1.far HB.out (Ne.symm HW9.out.2.1)
      have HU10 : Hid (Up w w10) := HB.out.up HU9.out HW9.out.2.2
      clear HC HB HH HRM9 HF HU9
      go_loopw [17, 18, 19, 115] (fun _ _ _ vi wy => ∃ i : Nat, i ≤ k ∧ vi = .int .i64 i ∧ Hid (XR w.heap.size wy go m (otC (fun j => ab2 (fm j)) xs f i)) ∧ Hid (XR w.heap.size wy gw k xs) ∧ Hid (Up w wy)) (fun _ _ _ vi _ => k - (intOf vi).toNat)
      case atStart => exact ⟨0, by omega, rfl, HO, HV, HU10⟩
      case round =>
        clear HO HV HU10 HUr
        obtain ⟨i, hi, rfl, HO, HV, HUy⟩ := hrel
        rename World => wy
        by_cases hlt3 : i < k
        · obtain ⟨b0, o0, rfl, hr⟩ := (HS.out.1.up HUy.out) (by omega)
          obtain ⟨q, cq, c1, -, hrv⟩ := hr i hlt3
          rw [HS.out.2.2.1 i hlt3] at c1 hrv
          obtain ⟨gk, ok, rfl, hrd⟩ := hrv HS.out.2.2.2.2.2
          have HRK0 : Hid (∀ W, Up w W → RD W gk ok m (f i)) := fun W hu => by
            obtain ⟨b1, o1, e1, hr1⟩ := HS.out.1 (by omega)
            simp only [Option.some.injEq, Addr.mk.injEq, and_true] at e1
            obtain ⟨rfl, rfl⟩ := e1
            obtain ⟨q1, cq1, c5, -, hrv1⟩ := hr1 i hlt3
            have c6 := cell_up c5 HUy.out
            rw [c1] at c6
            simp only [Option.some.injEq, Value.slice.injEq] at c6
            rw [← c6.1, ← c6.2.1] at hrv1
            obtain ⟨g3, o3, e3, hr3⟩ := hrv1 HS.out.2.2.2.2.2
            simp only [Option.some.injEq, Addr.mk.injEq, and_true] at e3
            obtain ⟨rfl, rfl⟩ := e3
            exact hr3.up hu
          have y1 : (i : Int) < (k : Int) := by omega
          clear hr hrv hrd
          go_wp2
          go_loopw [19, 122] (fun _ vj wz => ∃ (j : Nat) (x : Nat → CN), j ≤ m ∧ vj = .int .i64 j ∧ Hid (XR w.heap.size wz go m x) ∧ Hid (∀ l, l < m → x l = otC (fun j => ab2 (fm j)) xs f (if l < j then i + 1 else i) l) ∧ Hid (XR w.heap.size wz gw k xs) ∧ Hid (Up w wz)) (fun _ vj _ => m - (intOf vj).toNat)
          case atStart => exact ⟨0, _, by omega, rfl, HO, fun l hl => by rw [if_neg (by omega)], HV, HUy⟩
          case round =>
            clear HO HV HUy c1
            obtain ⟨j, x, hj, rfl, HO, HL, HV, HUz⟩ := hrel
            rename World => wz
            by_cases hlt4 : j < m
            · obtain ⟨x1, y1', c1, e1, -⟩ := HO.out.cell hlt4
              obtain ⟨x2, y2, c2, e2, -⟩ := HV.out.cell hlt3
              have c3' := HRK0.out wz HUz.out j hlt4
              obtain ⟨x3, y3, hx3⟩ : ∃ x y, f i j = (x, y) := ⟨_, _, rfl⟩
              rw [hx3] at c3'
              have c3 : wz.cell? ⟨gk, ok + j, none⟩ = some (.complex .f64 x3 y3) := c3'
              have E1 : Hid ((ab x1, ab y1') = otC (fun j => ab2 (fm j)) xs f i j) := by show _ = _; rw [e1, HL.out j hlt4, if_neg (by omega)]
              have E2 : Hid ((ab x2, ab y2) = xs i) := e2
              have E3 : Hid (f i j = (x3, y3)) := hx3
              have v1 : (j : Int) < (m : Int) := by omega
              clear c3' hx3 e1 e2
              go_wp2_with fail
              refine wp_region_shut 14 [(0, none), (1, none), (2, none), (3, some false), (4, none), (5, none), (6, none), (7, some false), (8, none), (9, none), (10, none), (11, some false), (12, some true), (13, some true)] (fun w9 => Up wz w9) (by kernel_rfl) (by decide) rfl (by kernel_rfl) (fun _ _ d _ _ h => by cases d <;> exact h) (Up.drewN wz 1) ?_
              refine OrdS.looks (.slice (some ⟨go, 0, none⟩) m m) (some 125) _ rfl rfl (Or.inl ⟨by kernel_rfl, fun w' hS => ?_⟩) ?_
              · go_simp
              refine OrdS.looks (.int .i64 j) (some 126) _ rfl rfl (Or.inl ⟨by kernel_rfl, fun w' hS => ?_⟩) ?_
              · go_simp
              refine OrdS.looks (.pointer (some ⟨go, j, none⟩)) (some 127) _ rfl rfl (Or.inl ⟨by kernel_rfl, fun w' hS => ?_⟩) ?_
              · go_simp
              refine OrdS.reads (.complex .f64 x1 y1') (some 128) _ rfl rfl (Or.inl ⟨by kernel_rfl, fun w' hS => ?_⟩) ?_
              · have l0 := cell_up c1 hS
                go_simp
              refine OrdS.looks (.slice (some ⟨gw, 0, none⟩) k k) (some 129) _ rfl rfl (Or.inl ⟨by kernel_rfl, fun w' hS => ?_⟩) ?_
              · go_simp
              refine OrdS.looks (.int .i64 i) (some 130) _ rfl rfl (Or.inl ⟨by kernel_rfl, fun w' hS => ?_⟩) ?_
              · go_simp
              refine OrdS.looks (.pointer (some ⟨gw, i, none⟩)) (some 131) _ rfl rfl (Or.inl ⟨by kernel_rfl, fun w' hS => ?_⟩) ?_
              · go_simp
              refine OrdS.reads (.complex .f64 x2 y2) (some 132) _ rfl rfl (Or.inl ⟨by kernel_rfl, fun w' hS => ?_⟩) ?_
              · have l0 := cell_up c2 hS
                go_simp
              refine OrdS.looks (.slice (some ⟨gk, ok, none⟩) m cq) (some 133) _ rfl rfl (Or.inl ⟨by kernel_rfl, fun w' hS => ?_⟩) ?_
              · go_simp
              refine OrdS.looks (.int .i64 j) (some 134) _ rfl rfl (Or.inl ⟨by kernel_rfl, fun w' hS => ?_⟩) ?_
              · go_simp
              refine OrdS.looks (.pointer (some ⟨gk, ok + j, none⟩)) (some 135) _ rfl rfl (Or.inl ⟨by kernel_rfl, fun w' hS => ?_⟩) ?_
              · go_simp
              refine OrdS.reads (.complex .f64 x3 y3) (some 136) _ rfl rfl (Or.inl ⟨by kernel_rfl, fun w' hS => ?_⟩) ?_
              · have l0 := cell_up c3 hS
                go_simp
              simp only [Act.put, List.setIfInBounds_toArray, List.set_cons_succ, List.set_cons_zero]
              refine OrdS.does ?_
              refine wpOp_callG (f := 20) (some 137) rfl rfl (by kernel_rfl) rfl #[.complex .f64 x2 y2, .complex .f64 x3 y3] (by kernel_rfl) (eg20 _ _) ?_
              refine (t20c x2 y2 x3 y3 _).mono ?_
              rintro e w5 ⟨gr, gi, k6, rfl, rfl, HG⟩
              have HU6 : Hid (Up wz (wz.drew.drewN k6)) := (Up.drewN wz 1).trans (Up.drewN _ _)
              refine ⟨_, rfl, HU6.out, ?_⟩
              simp only [Act.put, List.setIfInBounds_toArray, List.set_cons_succ, List.set_cons_zero]
              refine OrdS.does ?_
              refine wpOp_csub (some 138) rfl rfl rfl rfl x1 y1' gr gi (by kernel_rfl) (by kernel_rfl) ?_
              intro sr si k7 HSs
              refine ⟨HU6.out.trans (Up.drewN _ _), ?_⟩
              refine OrdS.ends ?_
              simp only [List.drop_succ_cons, List.drop_zero, Act.put, List.setIfInBounds_toArray, List.set_cons_succ, List.set_cons_zero]
              have HVV : Hid ((ab sr, ab si) = otC (fun j => ab2 (fm j)) xs f (i + 1) j) := by show _ = subC _ _; rw [HSs.out, HG.out, E1.out, E2.out, E3.out]; rfl
              have HU7 : Hid (Up wz ((wz.drew.drewN k6).drewN k7)) := HU6.out.trans (Up.drewN _ _)
              have HO7 : Hid (XR w.heap.size ((wz.drew.drewN k6).drewN k7) go m x) := HO.out.up HU7.out
              have HV7 : Hid (XR w.heap.size ((wz.drew.drewN k6).drewN k7) gw k xs) := HV.out.up HU7.out
              have HW7 : Hid (Up w ((wz.drew.drewN k6).drewN k7)) := HUz.out.trans HU7.out
              generalize (wz.drew.drewN k6).drewN k7 = wq at *
              obtain ⟨x9, y9, c9, -, f9⟩ := HO7.out.cell hlt4
              have c9' : (wq.cell? ⟨go, j, none⟩).isSome = true := by rw [c9]; rfl
              obtain ⟨HP1, HP2⟩ := HO7.out.put hlt4 sr si
              clear c9 HO HV HUz HU6 HU7 HG HSs c1 c2 c3
              go_wp2
              go_roundw
              case rel =>
                refine ⟨j + 1, _, by omega, by go_num, HP1, fun l hl => ?_, HV7.out.far HP2 (Ne.symm HW9.out.2.1), HP2.up HW7.out HW9.out.2.2⟩
                by_cases e : l = j
                · subst e
                  rw [if_pos rfl, if_pos (by omega), HVV.out]
                · rw [if_neg e, HL.out l hl]
                  by_cases e3 : l < j
                  · rw [if_pos e3, if_pos (by omega)]
                  · rw [if_neg e3, if_neg (by omega)]
              case measure => simp [intOf]; omega
            · obtain rfl : j = m := by omega
              go_wp2
              go_roundw
              case rel => exact ⟨i + 1, by omega, by go_num, HO.out.ext fun l hl => by rw [HL.out l hl, if_pos hl], HV, HUz⟩
              case measure => simp [intOf]; omega
        · obtain rfl : i = k := by omega
          go_wp2
          go_ret3
          refine ⟨go, gw, rfl, ⟨?_, ?_⟩, HUy⟩
          · rw [HXT.out, HXS.out]; exact HO.out
          · rw [HXT.out, HXS.out]; exact HV.out
end Go.Proofs.Ythpoipajfkfdeab

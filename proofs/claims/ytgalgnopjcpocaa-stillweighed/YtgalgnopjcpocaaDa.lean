/- Cancel: what it refuses; the rows copied. -/
import Derived.Test.YtgalgnopjcpocaaBd
import Derived.Test.YtgalgnopjcpocaaQa
import Derived.Laws.IdiomCopy
namespace Go.Proofs.Ytgalgnopjcpocaa
open Go.ChangeShapes Go.WideShapes Go.ChangeAt Go.RowKit Go.Fl Ieee
attribute [local go_sem] run_store_float run_store_c isSome_set call20 call33 run_neg fold_eq fold_ne fold_lt fold_gt abs_eq

/-- A table that may be cancelled: its rows' values. -/
structure TC (w : World) (R n c m : Nat) (P : Nat → Option Addr) (C : Nat → Nat) : Prop where
  tb : TB w R n P (fun _ => m) C
  n1 : 1 ≤ n
  nc : n ≤ c
  n2 : n ≤ 256
  m2 : m ≤ 16384
  nm : n * m ≤ 262144
set_option maxRecDepth 20000 in
theorem t44 {w : World} {R n c m : Nat} {P : Nat → Option Addr} {C : Nat → Nat} (h : TC w R n c m P C) : Calls Try.prog 44 #[.slice (some ⟨R, 0, none⟩) n c] w (BR false w) := by
  have H : Hid (TC w R n c m P C) := h
  have z1 : ¬ (256 : Int) < (n : Int) := by have := h.n2; omega
  have z2 : ¬ (16384 : Int) < (m : Int) := by have := h.m2; omega
  have z3 : (n : Int) ≤ 256 := by omega
  have z4 : (m : Int) ≤ 16384 := by omega
  clear h
  go_enter Try.func44, Try.ntmps44
  go_wp2
  go_loopw [3, 5, 11] (fun vc _ vi wr => ∃ (i x : Nat), i ≤ n ∧ vi = .int .i64 i ∧ vc = .int .i64 x ∧ Hid (x = i * m) ∧ wr = w) (fun _ _ vi _ => n - (intOf vi).toNat)
  case atStart => exact ⟨0, 0, by omega, rfl, rfl, (Nat.zero_mul m).symm, rfl⟩
  case round =>
    obtain ⟨i, x, hi, rfl, rfl, HX, rfl⟩ := hrel
    have hx1 : x ≤ 262144 := by rw [HX.out]; exact Nat.le_trans (Nat.mul_le_mul_right m hi) H.out.nm
    have z5 : (x : Int) ≤ 262144 := by omega
    by_cases hlt : i < n
    · have z6 : (i : Int) < (n : Int) := by omega
      have z7 : (0 : Int) ≤ (i : Int) := by omega
      have c0 := H.out.tb i hlt
      simp only at c0
      obtain ⟨y, hy⟩ : ∃ y, x + m = y := ⟨_, rfl⟩
      have hz : (x : Int) + (m : Int) = (y : Int) := by omega
      have HY : Hid (y = (i + 1) * m) := by show _ = _; rw [← hy, HX.out, Nat.succ_mul]
      clear hy hx1
      go_wp2
      go_roundw
      case rel => exact ⟨i + 1, y, by omega, by go_num, rfl, HY, trivial⟩
      case measure => simp [intOf]; omega
    · obtain rfl : i = n := by omega
      have z8 : ¬ (262144 : Int) < (x : Int) := by omega
      go_wp2
      go_ret
      exact ⟨by simp, rfl⟩
set_option maxRecDepth 20000 in
set_option maxHeartbeats 1000000 in
theorem t45 {w : World} {R n c m : Nat} {P : Nat → Option Addr} {C : Nat → Nat} (h : TC w R n c m P C) : Calls Try.prog 45 #[.slice (some ⟨R, 0, none⟩) n c] w (BR false w) := by
  have H : Hid (TC w R n c m P C) := h
  have h1 := h.n1
  have h2 := h.nc
  have h3 := h.n2
  have c00 := h.tb 0 (by omega)
  simp only at c00
  have z0 : (0 : Int) < (n : Int) := by omega
  have z1 : (1 : Int) ≤ (n : Int) := by omega
  have z2 : (n : Int) ≤ (c : Int) := by omega
  have z3 : (n : Int) ≤ 256 := by omega
  clear h
  rcases Nat.eq_zero_or_pos (n - 1) with hn | hn
  · obtain rfl : n = 1 := by omega
    by_cases hc : c = 1
    · subst hc
      go_enter Try.func45, Try.ntmps45
      go_wp2
      go_loopw [4, 8] (fun _ vi wr => vi = .int .i64 0 ∧ wr = w) (fun _ _ _ => 0)
      case atStart => exact ⟨rfl, rfl⟩
      case round =>
        obtain ⟨rfl, rfl⟩ := hrel
        go_wp2
        go_ret
        exact ⟨rfl, rfl⟩
    · have e1 : ¬ c - 1 = 0 := by omega
      go_enter Try.func45, Try.ntmps45
      go_wp2
      go_loopw [4, 8] (fun _ vi wr => vi = .int .i64 0 ∧ wr = w) (fun _ _ _ => 0)
      case atStart => exact ⟨rfl, rfl⟩
      case round =>
        obtain ⟨rfl, rfl⟩ := hrel
        go_wp2
        go_ret
        exact ⟨rfl, rfl⟩
  · obtain ⟨k, hk⟩ : ∃ k, n = k + 1 := ⟨n - 1, by omega⟩
    have HK : Hid (n = k + 1) := hk
    have hc : ¬ c = 1 := by omega
    have e1 : ¬ c - 1 = 0 := by omega
    have e2 : n - 1 = k := by omega
    have e3 : (n : Int) - 1 = (k : Int) := by omega
    clear hk hn
    go_enter Try.func45, Try.ntmps45
    go_wp2
    go_loopw [4, 8] (fun _ vi wr => ∃ i : Nat, i ≤ k ∧ vi = .int .i64 i ∧ wr = w) (fun _ vi _ => k - (intOf vi).toNat)
    case atStart => exact ⟨0, by omega, rfl, rfl⟩
    case round =>
      obtain ⟨i, hi, rfl, rfl⟩ := hrel
      by_cases hlt : i < k
      · have z6 : (i : Int) < (k : Int) := by omega
        have z7 : (0 : Int) ≤ (i : Int) := by omega
        have c0 := H.out.tb (1 + i) (by have := HK.out; omega)
        simp only at c0
        go_wp2
        go_roundw
        case rel => exact ⟨i + 1, by omega, by go_num, trivial⟩
        case measure => simp [intOf]; omega
      · obtain rfl : i = k := by omega
        go_wp2
        go_ret
        exact ⟨rfl, rfl⟩
set_option maxRecDepth 20000 in
theorem t30 {w : World} {R n c m o : Nat} {P : Nat → Option Addr} {C : Nat → Nat} (h : TC w R n c m P C) (ho : o < 9) (hn : o < n) : Calls Try.prog 30 #[.slice (some ⟨R, 0, none⟩) n c, .int .i64 o] w fun e w' => e = .returned (.int .i64 0) ∧ w' = w := by
  have H : Hid (TC w R n c m P C) := h
  have HB : Hid ((decide ((0 : Int) ≤ (o : Int)) && decide ((o : Int) ≤ 8)) = true) := by show _ = _; simp; omega
  have z1 : ¬ (n : Int) ≤ (o : Int) := by omega
  clear h
  go_enter Try.func30, Try.ntmps30
  go_wp2_with (first
    | (go_at_call 29; (with_reducible refine (t29k HB.out _).mono ?_); rintro e w' ⟨rfl, hw⟩; subst w')
    | (go_at_call 44; (with_reducible refine (t44 H.out).mono ?_); rintro e w' ⟨rfl, hw⟩; subst w')
    | (go_at_call 45; (with_reducible refine (t45 H.out).mono ?_); rintro e w' ⟨rfl, hw⟩; subst w'))
  go_ret
  exact ⟨rfl, rfl⟩
end Go.Proofs.Ytgalgnopjcpocaa
/- Rows in memory of their own: copied. -/
namespace Go.Proofs.Ytgalgnopjcpocaa
open Go.ChangeShapes Go.WideShapes Go.ChangeAt Go.RowKit Go.Fl Ieee
attribute [local go_sem] run_store_float run_store_c isSome_set call20 call33 run_neg fold_eq fold_ne fold_lt fold_gt abs_eq

/-- A table of rows that stand each in memory of its own, behind b: the rows' values at A. -/
structure RT (b : Nat) (w : World) (A N m : Nat) (B : Nat → Nat) (D : Nat → List (Nat × Nat)) : Prop where
  hdr : ∀ a, a < N → w.cell? ⟨A, a, none⟩ = some (.slice (some ⟨B a, 0, none⟩) m m)
  row : ∀ a, a < N → CRow b w (.slice (some ⟨B a, 0, none⟩) m m) (D a)
  inj : ∀ i j, i < N → j < N → B i = B j → i = j
  neA : ∀ a, a < N → B a ≠ A
  loA : b ≤ A
theorem RT.up {b : Nat} {w w' : World} {A N m : Nat} {B : Nat → Nat} {D : Nat → List (Nat × Nat)} (h : RT b w A N m B D) (hu : Up w w') : RT b w' A N m B D :=
  ⟨fun a ha => cell_up (h.hdr a ha) hu, fun a ha => (h.row a ha).up hu, h.inj, h.neA, h.loA⟩
theorem RT.len {b : Nat} {w : World} {A N m : Nat} {B : Nat → Nat} {D : Nat → List (Nat × Nat)} (h : RT b w A N m B D) {a : Nat} (ha : a < N) : (D a).length = m := (h.row a ha).len
theorem RT.cell {b : Nat} {w : World} {A N m : Nat} {B : Nat → Nat} {D : Nat → List (Nat × Nat)} (h : RT b w A N m B D) {a g : Nat} (ha : a < N) (hg : g < m) : w.cell? ⟨B a, g, none⟩ = some (.complex .f64 (D a)[g]!.1 (D a)[g]!.2) := (h.row a ha).cell (by rw [h.len ha]; exact hg)
theorem RT.lo {b : Nat} {w : World} {A N m : Nat} {B : Nat → Nat} {D : Nat → List (Nat × Nat)} (h : RT b w A N m B D) {a : Nat} (ha : a < N) : b ≤ B a ∧ B a < w.heap.size := World.ownsRow.lt (h.row a ha) _ rfl
/-- One number is laid. -/
theorem RT.put {b : Nat} {w : World} {A N m : Nat} {B : Nat → Nat} {D : Nat → List (Nat × Nat)} (h : RT b w A N m B D) {a : Nat} (ha : a < N) (g x y : Nat) : RT b (w.setCell ⟨B a, g, none⟩ (.complex .f64 x y)) A N m B (fun i => if i = a then (D a).set g (x, y) else D i) ∧ But (B a) w (w.setCell ⟨B a, g, none⟩ (.complex .f64 x y)) := by
  obtain ⟨s1, s2⟩ := (h.row a ha).put g x y
  refine ⟨⟨fun i hi => s2.cell (fun e => h.neA a ha e.symm) (h.hdr i hi), fun i hi => ?_, h.inj, h.neA, h.loA⟩, s2⟩
  by_cases e : i = a
  · subst e; simp only [if_true]; exact s1
  · simp only [if_neg e]
    exact (h.row i hi).far s2 (fun q => e (h.inj i a hi ha q))
/-- The first k rows are copied. -/
structure CP (w wr : World) (A N m k : Nat) (B : Nat → Nat) (D : Nat → List (Nat × Nat)) : Prop where
  hd : ∃ l, l.length = N ∧ wr.ownsRow w.heap.size 54 1 (.slice (some ⟨A, 0, none⟩) N N) N l ∧ ∀ i, i < k → l[i]? = some (.slice (some ⟨B i, 0, none⟩) m m)
  row : ∀ a, a < k → CRow w.heap.size wr (.slice (some ⟨B a, 0, none⟩) m m) (D a)
  inj : ∀ i j, i < k → j < k → B i = B j → i = j
  neA : ∀ a, a < k → B a ≠ A
  up : Up w wr
theorem CP.cell {w wr : World} {A N m k : Nat} {B : Nat → Nat} {D : Nat → List (Nat × Nat)} (h : CP w wr A N m k B D) (i : Nat) (hi : i < N) : ∃ v, wr.cell? ⟨A, i, none⟩ = some v ∧ wr.frozen? ⟨A, i, none⟩ = false := by
  obtain ⟨l, hl, h1, h2⟩ := h.hd
  exact ⟨l[i]'(by omega), by rw [World.ownsRow.cellAt h1 i (by omega), List.getElem?_eq_getElem (by omega)], World.ownsRow.frozenAt h1 i⟩
theorem CP.lo {w wr : World} {A N m k : Nat} {B : Nat → Nat} {D : Nat → List (Nat × Nat)} (h : CP w wr A N m k B D) : w.heap.size ≤ A ∧ A < wr.heap.size := by
  obtain ⟨l, hl, h1, h2⟩ := h.hd
  exact World.ownsRow.lt h1 A rfl
theorem CP.next {w wr w1 w2 : World} {A N m k g : Nat} {B : Nat → Nat} {D : Nat → List (Nat × Nat)} {d : List (Nat × Nat)} (h : CP w wr A N m k B D) (hk : k < N) (hu : Up wr w1) (hg : wr.heap.size ≤ g)
    (h2 : But g (w1.setCell ⟨A, k, none⟩ (.slice (some ⟨g, 0, none⟩) m m)) w2) (hd : CRow wr.heap.size w2 (.slice (some ⟨g, 0, none⟩) m m) d) :
    CP w w2 A N m (k + 1) (fun i => if i < k then B i else g) (fun i => if i < k then D i else d) := by
  obtain ⟨l, hl, e1, e2⟩ := h.hd
  have hA := h.lo
  obtain ⟨s1, s2⟩ := World.ownsRow.stored (owns_up e1 hu) k (.slice (some ⟨g, 0, none⟩) m m)
  have hgA : A ≠ g := by omega
  have hlt : ∀ i, i < k → B i < wr.heap.size := fun i hi => (World.ownsRow.lt (h.row i hi) _ rfl).2
  refine ⟨⟨_, by simpa using hl, owns_far s1 h2 hgA, fun i hi => ?_⟩, fun a ha => ?_, fun i j hi hj e => ?_, fun a ha => ?_, ?_⟩
  · rw [List.getElem?_set]
    by_cases e : k = i
    · subst e; rw [if_pos rfl, if_pos (by omega), if_neg (Nat.lt_irrefl _)]
    · rw [if_neg e, if_pos (by omega)]; exact e2 i (by omega)
  · by_cases e : a < k
    · simp only [if_pos e]
      have := hlt a e
      exact (((h.row a e).up hu).far s2 (h.neA a e)).far h2 (by omega)
    · simp only [if_neg e]
      exact hd.down h.up.size
  · by_cases e1 : i < k <;> by_cases e3 : j < k
    · simp only [if_pos e1, if_pos e3] at e; exact h.inj i j e1 e3 e
    · simp only [if_pos e1, if_neg e3] at e; have := hlt i e1; omega
    · simp only [if_neg e1, if_pos e3] at e; have := hlt j e3; omega
    · omega
  · by_cases e : a < k
    · simp only [if_pos e]; exact h.neA a e
    · simp only [if_neg e]; exact Ne.symm hgA
  · exact h2.up (But.up s2 (h.up.trans hu) hA.1) (Nat.le_trans h.up.size hg)
theorem CP.done {w wr : World} {A N m : Nat} {B : Nat → Nat} {D : Nat → List (Nat × Nat)} (h : CP w wr A N m N B D) : RT w.heap.size wr A N m B D := by
  obtain ⟨l, hl, h1, h2⟩ := h.hd
  exact ⟨fun i hi => by rw [World.ownsRow.cellAt h1 i (by omega)]; exact h2 i hi, h.row, h.inj, h.neA, h.lo.1⟩
theorem set_but' (w : World) (g k : Nat) (v : Value) : But g w (w.setCell ⟨g, k, none⟩ v) :=
  ⟨rfl, rfl, rfl, by simp, fun j _ hk => Below.heap_setCell _ _ _ j (fun e => hk (by rw [e]))⟩
/-- What copied leaves. -/
def CO (w : World) (N m : Nat) (f : Nat → Nat → Nat × Nat) (e : Ending) (w' : World) : Prop := ∃ A B D, e = .returned (.slice (some ⟨A, 0, none⟩) N N) ∧ Hid (RT w.heap.size w' A N m B D) ∧ Hid (Up w w') ∧ Hid (∀ i, i < N → ∀ g, g < m → (D i)[g]! = f i g)
set_option maxRecDepth 20000 in
set_option maxHeartbeats 2000000 in
theorem t31 {w : World} {R N m c : Nat} {P : Nat → Option Addr} {C G O : Nat → Nat} {f : Nat → Nat → Nat × Nat} (h : TI w R N m P C G O f) (hN : N ≤ 256) (hm : m ≤ 16384) (hm1 : 1 ≤ m) : Calls Try.prog 31 #[.slice (some ⟨R, 0, none⟩) N c] w (CO w N m f) := by
  have H : Hid (TI w R N m P C G O f) := h
  clear h
  go_enter Try.func31, Try.ntmps31
  go_wp2_with ((with_reducible refine upon_makeS (by omega) ?_); intro A w1 HA)
  have HS : Hid (CP w w1 A N m 0 (fun _ => 0) (fun _ => [])) := by
    obtain ⟨e, r, u⟩ := HA.out
    exact ⟨⟨_, by simp, owns_down r (by omega), fun i hi => by omega⟩, fun a ha => by omega, fun i j hi => by omega, fun a ha => by omega, u⟩
  clear HA
  go_loopw [4, 5, 11] (fun _ _ vi wr => ∃ (k : Nat) (B : Nat → Nat) (D : Nat → List (Nat × Nat)), k ≤ N ∧ vi = .int .i64 k ∧ Hid (CP w wr A N m k B D) ∧ Hid (∀ i, i < k → ∀ g, g < m → (D i)[g]! = f i g)) (fun _ _ vi _ => N - (intOf vi).toNat)
  case atStart => exact ⟨0, _, _, by omega, rfl, HS, fun i hi => by omega⟩
  case round =>
    clear HS
    obtain ⟨k, B, D, hk, rfl, HS, HD⟩ := hrel
    by_cases hlt : k < N
    · have z1 : (k : Int) < (N : Int) := by omega
      have z2 : (0 : Int) ≤ (k : Int) := by omega
      have c0 := cell_up (H.out.tb k hlt) HS.out.up
      simp only at c0
      obtain ⟨p1, p2⟩ := H.out.rd k hlt (by omega)
      rw [p1] at c0
      have HR : Hid (RD w (G k) (O k) m (f k)) := p2
      obtain ⟨v0, a1, a2⟩ := HS.out.cell k hlt
      go_wp2_with (first
        | ((with_reducible refine upon_makeC (by omega) ?_); intro g w2 HG
           have b1 := cell_up a1 HG.out.2.2
           have b2 : w2.frozen? ⟨A, k, none⟩ = false := (World.frozen?_of_block (w := wr) (a := ⟨A, k, none⟩) (HG.out.2.2.block A (World.block_lt_of_cell? wr _ a1))).trans a2
           have HSB : Hid (But A w2 (w2.setCell ⟨A, k, none⟩ (.slice (some ⟨g, 0, none⟩) m m))) := set_but' _ _ _ _
           have HC : Hid ((w2.setCell ⟨A, k, none⟩ (.slice (some ⟨g, 0, none⟩) m m)).heap[g]? = some (.cells ((List.replicate m (0, 0)).map ce).toArray 53 (0, 0))) := by
             have q := HG.out.1
             have q2 := HS.out.lo
             exact (HG.out.2.1.far HSB.out (by omega)).heap
           have HR2 : Hid (RD (w2.setCell ⟨A, k, none⟩ (.slice (some ⟨g, 0, none⟩) m m)) (G k) (O k) m (f k)) := fun j hj => HSB.out.cell (by
             have q1 := World.block_lt_of_cell? w _ (HR.out j hj)
             have q2 := HS.out.lo.1
             intro e; simp only at q1; omega) (cell_up (HR.out j hj) (HS.out.up.trans HG.out.2.2)))
        | ((with_reducible refine upon_copy (lo := O k) (s := 0) (n := m) HC HR2 rfl (Nat.le_of_eq (Nat.zero_add m)) (Nat.le_refl m) (by simp) ?_); intro w3 hg3 HB3))
      have HN : Hid (CP w w3 A N m (k + 1) (fun i => if i < k then B i else g) (fun i => if i < k then D i else cut (f k) 0 m)) := by
        have e : splice (List.replicate m ((0 : Nat), (0 : Nat))) 0 (cut (f k) 0 m) = cut (f k) 0 m := by simp [splice, cut_len]
        have q := hg3.out
        rw [e] at q
        exact HS.out.next hlt HG.out.2.2 (Nat.le_of_eq HG.out.1) HB3.out (CRow.of_heap (cut_len _ _ _) (Nat.le_of_eq HG.out.1) (by omega) q)
      have HD2 : Hid (∀ i, i < k + 1 → ∀ j, j < m → ((fun i => if i < k then D i else cut (f k) 0 m) i)[j]! = f i j) := fun i hi j hj => by
        by_cases e : i < k
        · simp only [if_pos e]; exact HD.out i e j hj
        · obtain rfl : i = k := by omega
          simp only [if_neg e]
          rw [getElem!_pos _ j (by rw [cut_len]; exact hj)]
          simp [cut]
      go_roundw
      case rel => exact ⟨k + 1, _, _, by omega, by go_num, HN, HD2⟩
      case measure => simp [intOf]; omega
    · obtain rfl : k = N := by omega
      go_wp2
      go_ret
      exact ⟨A, B, D, rfl, HS.out.done, HS.out.up, HD⟩
set_option maxRecDepth 20000 in
theorem upon_copy0 {o : Oper} {a : Act} {next : Act → World → Prop} {Q : Exit → Act → World → Prop} {w : World} {F : Value → World → Result Next} {d s : Option Addr} {c c' : Nat}
    (h : o.upon Try.prog a next Q (F (.int .i64 0) w)) :
    o.upon Try.prog a next Q (((Builtin.copy_ #[54, 54] 3 #[.slice d 0 c, .slice s 0 c']).run Try.prog w).andThen F) := by
  rw [run_copy_none (P := Try.prog) w 54 54 3 53 d s 0 c 0 c' Try.underlying54 sz26 rfl]
  exact h
set_option maxRecDepth 20000 in
theorem upon_makeCz0 {o : Oper} {a : Act} {next : Act → World → Prop} {Q : Exit → Act → World → Prop} {w : World} {F : Value → World → Result Next}
    (hk : ∀ g w', Hid (Made 0 g w w') → o.upon Try.prog a next Q (F (.slice (some ⟨g, 0, none⟩) 0 0) w')) :
    o.upon Try.prog a next Q (((Instr.makeSlice 54 (.int .i64 0) (.int .i64 0)).run Try.prog w).andThen F) := upon_makeC (n := 0) (by omega) hk
set_option maxRecDepth 20000 in
set_option maxHeartbeats 2000000 in
theorem t31z {w : World} {R N c : Nat} {P : Nat → Option Addr} {C G O : Nat → Nat} {f : Nat → Nat → Nat × Nat} (h : TI w R N 0 P C G O f) (hN : N ≤ 256) : Calls Try.prog 31 #[.slice (some ⟨R, 0, none⟩) N c] w (CO w N 0 f) := by
  have H : Hid (TI w R N 0 P C G O f) := h
  clear h
  go_enter Try.func31, Try.ntmps31
  go_wp2_with ((with_reducible refine upon_makeS (by omega) ?_); intro A w1 HA)
  have HS : Hid (CP w w1 A N 0 0 (fun _ => 0) (fun _ => [])) := by
    obtain ⟨e, r, u⟩ := HA.out
    exact ⟨⟨_, by simp, owns_down r (by omega), fun i hi => by omega⟩, fun a ha => by omega, fun i j hi => by omega, fun a ha => by omega, u⟩
  clear HA
  go_loopw [4, 5, 11] (fun _ _ vi wr => ∃ (k : Nat) (B : Nat → Nat) (D : Nat → List (Nat × Nat)), k ≤ N ∧ vi = .int .i64 k ∧ Hid (CP w wr A N 0 k B D)) (fun _ _ vi _ => N - (intOf vi).toNat)
  case atStart => exact ⟨0, _, _, by omega, rfl, HS⟩
  case round =>
    clear HS
    obtain ⟨k, B, D, hk, rfl, HS⟩ := hrel
    by_cases hlt : k < N
    · have z1 : (k : Int) < (N : Int) := by omega
      have z2 : (0 : Int) ≤ (k : Int) := by omega
      have c0 := cell_up (H.out.tb k hlt) HS.out.up
      simp only at c0
      obtain ⟨v0, a1, a2⟩ := HS.out.cell k hlt
      go_wp2_with (first
        | ((with_reducible refine upon_makeCz0 ?_); intro g w2 HG
           have b1 := cell_up a1 HG.out.2.2
           have b2 : w2.frozen? ⟨A, k, none⟩ = false := (World.frozen?_of_block (w := wr) (a := ⟨A, k, none⟩) (HG.out.2.2.block A (World.block_lt_of_cell? wr _ a1))).trans a2)
        | (with_reducible refine upon_copy0 ?_))
      have HN : Hid (CP w (w2.setCell ⟨A, k, none⟩ (.slice (some ⟨g, 0, none⟩) 0 0)) A N 0 (k + 1) (fun i => if i < k then B i else g) (fun i => if i < k then D i else [])) := by
        have q := HG.out.1
        have q2 := HS.out.lo
        refine HS.out.next hlt HG.out.2.2 (Nat.le_of_eq HG.out.1) (But.refl _ _) ?_
        have q3 := HG.out.2.1
        rw [← q] at q3
        rw [← q]
        exact q3.far (set_but' _ _ _ _) (by omega)
      go_roundw
      case rel => exact ⟨k + 1, _, _, by omega, by go_num, HN⟩
      case measure => simp [intOf]; omega
    · obtain rfl : k = N := by omega
      go_wp2
      go_ret
      exact ⟨A, B, D, rfl, HS.out.done, HS.out.up, fun i _ g hg => by omega⟩
end Go.Proofs.Ytgalgnopjcpocaa
/- Cancel: differences taken in place. -/
namespace Go.Proofs.Ytgalgnopjcpocaa
open Go.ChangeShapes Go.WideShapes Go.ChangeAt Go.RowKit Go.Fl Ieee
attribute [local go_sem] run_store_float run_store_c isSome_set call20 call33 run_neg fold_eq fold_ne fold_lt fold_gt abs_eq

/-- A difference by parts. -/
def difC (p q : C2) : C2 := (bin .sub p.1 q.1, bin .sub p.2 q.2)
/-- What stands at a gate of a row, where the rows behind q are done, and of q so many gates. -/
def stF (F : Nat → Nat → C2) (q r a g : Nat) : C2 := if q < a ∨ (a = q ∧ g < r) then difC (F a g) (F (a - 1) g) else F a g
theorem stF_next (F : Nat → Nat → C2) (q r a g : Nat) : stF F q (r + 1) a g = if a = q ∧ g = r then difC (F a g) (F (a - 1) g) else stF F q r a g := by
  unfold stF
  by_cases h : a = q ∧ g = r
  · rw [if_pos h, if_pos (Or.inr ⟨h.1, by omega⟩)]
  · rw [if_neg h]
    by_cases h2 : q < a ∨ (a = q ∧ g < r)
    · rw [if_pos h2, if_pos (by omega)]
    · rw [if_neg h2, if_neg (by omega)]
theorem stF_row (F : Nat → Nat → C2) {q m a g : Nat} (hg : g < m) : stF F (q + 1) m a g = stF F q 0 a g := by
  unfold stF
  by_cases h : q < a ∨ (a = q ∧ g < 0)
  · rw [if_pos h, if_pos (by omega)]
  · rw [if_neg h, if_neg (by omega)]
/-- The differences under way. -/
structure DS (w0 w wr : World) (A N m q r : Nat) (B : Nat → Nat) (D : Nat → List (Nat × Nat)) (F : Nat → Nat → C2) : Prop where
  rt : RT w0.heap.size wr A N m B D
  up : Up w0 wr
  val : ∀ a, a < N → ∀ g, g < m → ab2 (D a)[g]! = stF F q r a g
/-- What differences leaves. -/
def DO (w0 : World) (A N m off n c : Nat) (B : Nat → Nat) (F : Nat → Nat → C2) (e : Ending) (w' : World) : Prop :=
  ∃ D, e = .returned (.slice (some ⟨A, off + 1, none⟩) n c) ∧ Hid (RT w0.heap.size w' A N m B D) ∧ Hid (Up w0 w') ∧ Hid (∀ a, a < N → ∀ g, g < m → ab2 (D a)[g]! = if off < a then difC (F a g) (F (a - 1) g) else F a g)
theorem DS.put {w0 w wr : World} {A N m q r : Nat} {B : Nat → Nat} {D : Nat → List (Nat × Nat)} {F : Nat → Nat → C2} (h : DS w0 w wr A N m q r B D F) (hq : q < N) (hr : r < m) {x y : Nat} (hx : (ab x, ab y) = difC (F q r) (F (q - 1) r)) : DS w0 w (wr.setCell ⟨B q, r, none⟩ (.complex .f64 x y)) A N m q (r + 1) B (fun i => if i = q then (D q).set r (x, y) else D i) F := by
  obtain ⟨s1, s2⟩ := h.rt.put hq r x y
  refine ⟨s1, s2.up h.up (h.rt.lo hq).1, fun a ha g hg => ?_⟩
  rw [stF_next]
  by_cases e : a = q
  · subst e
    simp only [if_true]
    rw [get_set' _ _ _ (by rw [h.rt.len ha]; exact hg)]
    by_cases e2 : g = r
    · subst e2; simp only [if_true, and_self]; exact hx
    · rw [if_neg e2, if_neg (fun h => e2 h.2)]; exact h.val a ha g hg
  · simp only [if_neg e]
    rw [if_neg (fun h => e h.1)]; exact h.val a ha g hg
theorem DS.drewN {w0 w wr : World} {A N m q r : Nat} {B : Nat → Nat} {D : Nat → List (Nat × Nat)} {F : Nat → Nat → C2} (h : DS w0 w wr A N m q r B D F) (j : Nat) : DS w0 w (wr.drewN j) A N m q r B D F := ⟨h.rt.up (Up.drewN _ _), h.up.trans (Up.drewN _ _), h.val⟩
set_option maxRecDepth 20000 in
set_option maxHeartbeats 2000000 in
theorem t32 {w0 w : World} {A N m off n n1 c : Nat} {B : Nat → Nat} {D : Nat → List (Nat × Nat)} {F : Nat → Nat → C2} (h : RT w0.heap.size w A N m B D) (hu : Up w0 w) (hv : ∀ a, a < N → ∀ g, g < m → ab2 (D a)[g]! = F a g) (hn : off + n = N) (hn1 : n = n1 + 1) (h1 : 1 ≤ n1) (hN : N ≤ 256) (hm : m ≤ 16384) (hc : n ≤ c) (hc2 : c ≤ 1000) :
    Calls Try.prog 32 #[.slice (some ⟨A, off, none⟩) n c] w (DO w0 A N m off n1 (c - 1) B F) := by
  have HS0 : Hid (DS w0 w w A N m (N - 1) 0 B D F) := ⟨h, hu, fun a ha g hg => by
    rw [hv a ha g hg]; unfold stF; rw [if_neg (by omega)]⟩
  have HN : Hid (off + n = N ∧ n = n1 + 1 ∧ N - 1 = off + n1) := ⟨hn, hn1, by omega⟩
  have z1 : (n : Int) - 1 = (n1 : Int) := by omega
  have z2 : (1 : Int) ≤ (n : Int) := by omega
  have z3 : (n : Int) ≤ (c : Int) := by omega
  have z4 : (n : Int) ≤ 256 := by omega
  have z5 : (c : Int) ≤ 1000 := by omega
  have z6 : n - 1 = n1 := by omega
  have z7 : ¬ c = 1 := by omega
  have z8 : ¬ c - 1 = 0 := by omega
  have z9 : (n1 : Int) ≤ 256 := by omega
  rw [HN.out.2.2] at HS0
  clear h hu hv hn hn1
  go_enter Try.func32, Try.ntmps32
  go_wp2
  go_loopw [3, 4, 5] (fun vp _ _ wr => ∃ (p : Nat) (D : Nat → List (Nat × Nat)), p ≤ n1 ∧ vp = .int .i64 p ∧ Hid (DS w0 w wr A N m (off + p) 0 B D F)) (fun vp _ _ _ => (intOf vp).toNat)
  case atStart => exact ⟨n1, D, by omega, rfl, HS0⟩
  case round =>
    clear HS0
    obtain ⟨p, D, hp, rfl, HS⟩ := hrel
    rcases Nat.eq_zero_or_pos p with hp0 | hp0
    · subst hp0
      go_wp2
      go_ret
      refine ⟨D, rfl, HS.out.rt, HS.out.up, fun a ha g hg => ?_⟩
      rw [HS.out.val a ha g hg]
      unfold stF
      by_cases e : off < a
      · rw [if_pos e, if_pos (by omega)]
      · rw [if_neg e, if_neg (by omega)]
    · obtain ⟨k, hk⟩ : ∃ k, p = k + 1 := ⟨p - 1, by omega⟩
      have HK : Hid (p = k + 1) := hk
      have y1 : (0 : Int) < (p : Int) := by omega
      have y2 : (p : Int) - 1 = (k : Int) := by omega
      have y3 : (k : Int) < (n : Int) := by omega
      have y4 : (p : Int) < (n : Int) := by omega
      have y5 : (0 : Int) ≤ (k : Int) := by omega
      have y6 : (0 : Int) ≤ (p : Int) := by omega
      have hpN : off + p < N := by have := HN.out; omega
      have hkN : off + k < N := by omega
      have c1 := HS.out.rt.hdr (off + k) hkN
      have HQ : Hid (off + p - 1 = off + k) := by show _ = _; omega
      have HPN : Hid (off + p < N ∧ off + k < N) := ⟨hpN, hkN⟩
      generalize hW : wr = W at *
      clear hW hk hpN hkN
      go_wp2
      clear c1
      go_loopw [4, 5, 19] (fun _ _ vi wr => ∃ (r : Nat) (D : Nat → List (Nat × Nat)), r ≤ m ∧ vi = .int .i64 r ∧ Hid (DS w0 w wr A N m (off + p) r B D F)) (fun _ _ vi _ => m - (intOf vi).toNat)
      case atStart => exact ⟨0, D, by omega, rfl, HS⟩
      case round =>
        clear HS
        obtain ⟨r, D, hr, rfl, HS⟩ := hrel
        by_cases hlt : r < m
        · have x1 : (r : Int) < (m : Int) := by omega
          have x2 : (0 : Int) ≤ (r : Int) := by omega
          have c2 := HS.out.rt.hdr (off + p) HPN.out.1
          have d1 := HS.out.rt.cell HPN.out.2 hlt
          have d2 := HS.out.rt.cell HPN.out.1 hlt
          have f2 := (HS.out.rt.row (off + p) HPN.out.1).frz r
          have HV1 : Hid (ab2 (D (off + k))[r]! = F (off + k) r) := by
            show _ = _
            rw [HS.out.val _ HPN.out.2 _ hlt]; unfold stF; rw [if_neg (by have := HK.out; omega)]
          have HV2 : Hid (ab2 (D (off + p))[r]! = F (off + p) r) := by
            show _ = _
            rw [HS.out.val _ HPN.out.1 _ hlt]; unfold stF; rw [if_neg (by omega)]
          have i2 : (wr.cell? ⟨B (off + p), r, none⟩).isSome = true := by rw [d2]; rfl
          generalize (D (off + k))[r]! = ux at d1 HV1
          generalize (D (off + p))[r]! = vx at d2 HV2
          obtain ⟨u1, u2⟩ := ux
          obtain ⟨v1, v2⟩ := vx
          simp only at d1 d2
          go_wp2_with ((with_reducible refine upon_csub ?_); intro x y nn hx hy)
          go_roundw
          case rel => exact ⟨r + 1, _, by omega, by go_num, (HS.out.drewN nn).put HPN.out.1 hlt (by
            have e1 := HV1.out
            have e2 := HV2.out
            rw [HQ.out, ← e1, ← e2, hx.out, hy.out]; rfl)⟩
          case measure => simp [intOf]; omega
        · obtain rfl : r = m := by omega
          go_wp2
          go_roundw
          case rel => exact ⟨k, D, by have := HK.out; omega, by go_num, HS.out.rt, HS.out.up, fun a ha g hg => by
            rw [HS.out.val a ha g hg, HK.out]
            exact stF_row F hg⟩
          case measure => have := HK.out; simp [intOf]; omega
end Go.Proofs.Ytgalgnopjcpocaa
/- Cancel. -/
namespace Go.Proofs.Ytgalgnopjcpocaa
open Go.ChangeShapes Go.WideShapes Go.ChangeAt Go.RowKit Go.Fl Ieee
attribute [local go_sem] run_store_float run_store_c isSome_set call20 call33 run_neg fold_eq fold_ne fold_lt fold_gt abs_eq

/-- The differences, so many times. -/
def dk (F : Nat → Nat → C2) : Nat → Nat → Nat → C2
  | 0, a, g => F a g
  | k + 1, a, g => if k < a then difC (dk F k a g) (dk F k (a - 1) g) else dk F k a g
/-- What Cancel leaves: n rows. -/
def CZ (w : World) (N m o n : Nat) (F : Nat → Nat → C2) (e : Ending) (w' : World) : Prop :=
  ∃ A B D, e = .returned (.tuple #[.slice (some ⟨A, o, none⟩) n n, .int .i64 0]) ∧ Hid (RT w.heap.size w' A N m B D) ∧ Hid (Up w w') ∧ Hid (∀ a, a < N → ∀ g, g < m → ab2 (D a)[g]! = dk F o a g)
set_option maxRecDepth 20000 in
set_option maxHeartbeats 2000000 in
theorem t22 {w : World} {R N m c o n : Nat} {P : Nat → Option Addr} {C G O : Nat → Nat} {f : Nat → Nat → Nat × Nat} (h : TI w R N m P C G O f) (hc : N ≤ c) (hN : N ≤ 256) (hm : m ≤ 16384) (hNm : N * m ≤ 262144) (ho : o < 9) (hn : o + n = N) (hn1 : 1 ≤ n) : Calls Try.prog 22 #[.slice (some ⟨R, 0, none⟩) N c, .int .i64 o] w (CZ w N m o n (fun a g => ab2 (f a g))) := by
  have HC : Hid (TC w R N c m P C) := ⟨h.tb, by omega, hc, hN, hm, hNm⟩
  have H31 : Hid (Calls Try.prog 31 #[.slice (some ⟨R, 0, none⟩) N c] w (CO w N m f)) := by
    rcases Nat.eq_zero_or_pos m with h0 | h0
    · subst h0; exact t31z h hN
    · exact t31 h hN hm h0
  have HN : Hid (o + n = N) := hn
  have z1 : (o : Int) ≤ 8 := by omega
  have z2 : (0 : Int) ≤ (o : Int) := by omega
  clear h hn
  go_enter Try.func22, Try.ntmps22
  go_wp2_with (first
    | (go_at_call 30; (with_reducible refine (t30 HC.out ho (by have := HN.out; omega)).mono ?_); rintro e w' ⟨rfl, hw⟩; subst w')
    | (go_at_call 31; (with_reducible refine H31.out.mono ?_); rintro e w1 ⟨A, B, D, rfl, HR, HU, HV⟩))
  have HV0 : Hid (∀ a, a < N → ∀ g, g < m → ab2 (D a)[g]! = dk (fun a g => ab2 (f a g)) 0 a g) := fun a ha g hg => by rw [HV.out a ha g hg]; rfl
  clear HC H31 HV
  go_loopw [7, 17] (fun v7 vi wr => ∃ (k n' : Nat) (D : Nat → List (Nat × Nat)), k ≤ o ∧ vi = .int .i64 k ∧ v7 = .slice (some ⟨A, k, none⟩) n' n' ∧ Hid (k + n' = N) ∧ Hid (RT w.heap.size wr A N m B D) ∧ Hid (Up w wr) ∧ Hid (∀ a, a < N → ∀ g, g < m → ab2 (D a)[g]! = dk (fun a g => ab2 (f a g)) k a g)) (fun _ vi _ => o - (intOf vi).toNat)
  case atStart => exact ⟨0, N, D, by omega, rfl, rfl, Nat.zero_add N, HR, HU, HV0⟩
  case round =>
    clear HR HU HV0
    obtain ⟨k, n', D, hk, rfl, rfl, HK, HR, HU, HV⟩ := hrel
    by_cases hlt : k < o
    · have y1 : (k : Int) < (o : Int) := by omega
      obtain ⟨n1, e1⟩ : ∃ n1, n' = n1 + 1 := ⟨n' - 1, by have := HK.out; have := HN.out; omega⟩
      have HE : Hid (n' = n1 + 1) := e1
      have e2 : n' - 1 = n1 := by omega
      clear e1
      go_wp2_with (go_at_call 32; (with_reducible refine (t32 (c := n') HR.out HU.out HV.out HK.out HE.out (by have := HK.out; have := HN.out; have := HE.out; omega) hN hm (Nat.le_refl n') (by have := HK.out; omega)).mono ?_); rintro e w2 ⟨D2, rfl, HR2, HU2, HV2⟩; rw [e2])
      go_roundw
      case rel => exact ⟨k + 1, n1, D2, by omega, by go_num, rfl, by have q1 := HK.out; have q2 := HE.out; show _ = _; omega, HR2, HU2, HV2⟩
      case measure => simp [intOf]; omega
    · obtain rfl : k = o := by omega
      obtain rfl : n' = n := by have := HK.out; have := HN.out; omega
      go_wp2
      go_ret2
      exact ⟨A, B, D, rfl, HR, HU, HV⟩
end Go.Proofs.Ytgalgnopjcpocaa

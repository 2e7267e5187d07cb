/- Closed calls. -/
import Derived.Test.YtablmkpfbhifnabBi
namespace Go.Proofs.Ytablmkpfbhifnab
open Go.ChangeShapes Go.WideShapes Go.ChangeAt Go.RowKit Go.Fl Ieee
attribute [local go_sem] run_store_float run_store_complex call49 call47 run_neg fold_eq fold_ne fold_lt fold_gt abs_eq

theorem ER.base {w0 w w' : World} {z : Int} {e : Ending} (h : ER z w e w') (hu : Up w0 w) : ER z w0 e w' := ⟨h.1, hu.trans h.2.out⟩
theorem OKT.base {w0 w w' : World} {n m : Nat} {F : Nat → Nat → Option Nat × Option Nat} {e : Ending} (h : OKT w n m F e w') (hu : Up w0 w) : OKT w0 n m F e w' := by
  obtain ⟨A, B, d, he, h1, h2⟩ := h
  exact ⟨A, B, d, he, h1.out.base hu, h2⟩
/-- A table of one row that is written out. -/
abbrev tab1 (w : World) (cs : Array Value) (k : Nat) : World := (w.alloc (.cells cs 26)).alloc (.cells #[.slice (some ⟨w.heap.size, 0, none⟩) k k] 27)
theorem tab1_up (w : World) (cs : Array Value) (k : Nat) : Up w (tab1 w cs k) := (Up.alloc _ _).trans (Up.alloc _ _)
theorem tb1 (w : World) (cs : Array Value) (k : Nat) : TB (tab1 w cs k) (w.heap.size + 1) 1 (fun _ => some ⟨w.heap.size, 0, none⟩) (fun _ => k) (fun _ => k) := fun i hi => by
  obtain rfl : i = 0 := by omega
  rw [← size_one w (.cells cs 26)]
  exact new_cell _ _ _ _ _ rfl
theorem even_t9 {w : World} {R n c m : Nat} {P : Nat → Option Addr} {C : Nat → Nat} (h : TB w R n P (fun _ => m) C) (h0 : 0 < n) (hn : n ≤ 1000000) (hm : m ≤ 1000000) (w' : World) (hu : Up w w') : Calls Try.prog 9 #[.slice (some ⟨R, 0, none⟩) n c] w' (BR false w') :=
  t9 R n c n P _ C false w' (h.up hu) hn (fun _ _ => hm) h0 (fun _ _ => rfl) (Or.inr ⟨rfl, rfl⟩)
abbrev new1 (w : World) : World := tab1 w #[.complex .f64 4607182418800017408 0] 1
theorem c1 (w : World) : Calls Try.prog 4 #[.slice (some ⟨w.heap.size + 1, 0, none⟩) 1 1, .slice none 0 0] (new1 w) (ER 5 w) :=
  (t4e (b0 := false) (b1 := true) (b2 := false) (b3 := false) (even_t9 (tb1 w _ 1) (by omega) (by omega) (by omega)) (by decide) (fun _ h => by cases h) (fun _ h => by cases h) rfl rfl).mono fun _ _ h => h.base (tab1_up _ _ _)
theorem c2 (w : World) : Calls Try.prog 5 #[.slice (some ⟨w.heap.size + 1, 0, none⟩) 1 1, .slice none 0 0] (new1 w) (ER 2 w) :=
  (t5e (b0 := false) (b1 := true) (b2 := false) (b3 := false) (even_t9 (tb1 w _ 1) (by omega) (by omega) (by omega)) (by decide) (fun _ h => by cases h) (fun _ h => by cases h) rfl rfl).mono fun _ _ h => h.base (tab1_up _ _ _)
theorem c3 (w : World) : Calls Try.prog 5 #[.slice none 0 0, .slice (some ⟨w.heap.size, 0, none⟩) 1 1] (w.alloc (.cells #[.complex .f64 4607182418800017408 0] 26)) (OKT w 0 0 (fun _ _ => (none, none))) :=
  (t5z _ (by omega) (by omega)).mono fun _ _ h => h.base (Up.alloc _ _)
theorem c4 (w : World) : Calls Try.prog 6 #[.slice (some ⟨w.heap.size + 1 + 1, 0, none⟩) 2 2] (tab2 w #[.complex .f64 4607182418800017408 0] #[] 1 0) (ER 5 w) :=
  (t6e (b0 := true) (b1 := false) (fun w' hu => t9 _ 2 2 1 _ _ _ true w' ((tb2 w [(4607182418800017408, 0)] [] rfl rfl rfl rfl).1.up hu) (by omega) (fun i hi => by obtain rfl | rfl : i = 0 ∨ i = 1 := (by omega) <;> decide) (by omega) (fun i hi => by obtain rfl : i = 0 := (by omega); rfl) (Or.inl ⟨by omega, by decide, rfl⟩)) (fun h => by cases h) rfl rfl).mono fun _ _ h => h.base (tab2_up _ _ _ _ _)
/-- A table of its own, of which its number of rows is known alone. -/
def LT (w : World) (n : Nat) (e : Ending) (w' : World) : Prop := ∃ A, e = .returned (.tuple #[.slice (some ⟨A, 0, none⟩) n n, .int .i64 0]) ∧ Hid (Up w w')
theorem OKT.lt {w0 w w' : World} {n m : Nat} {F : Nat → Nat → Option Nat × Option Nat} {e : Ending} (h : OKT w n m F e w') (hu : Up w0 w) : LT w0 n e w' := by
  obtain ⟨A, B, d, he, h1, h2⟩ := h
  exact ⟨A, he, hu.trans h1.out.up⟩
theorem c5 (w : World) : Calls Try.prog 6 #[.slice (some ⟨w.heap.size + 1 + 1, 0, none⟩) 2 2] (tab2 w #[] #[] 0 0) (LT w 0) :=
  (t6 (n := 2) (m := 0) (ti2 w [] [] rfl rfl rfl rfl) (by omega) (by omega) (by omega) (by omega)).mono fun _ _ h => h.lt (tab2_up _ _ _ _ _)
def k1 : List (Nat × Nat) := [(4617315517961601024, 0), (13830554455654793216, 0)]
abbrev newq (w : World) : World := (tab2 w #[.complex .f64 4607182418800017408 0] #[.complex .f64 4613937818241073152 0] 1 1).alloc (.cells #[.float .f64 4611686018427387904, .float .f64 4607182418800017408] 30)
theorem c6 (w : World) : Calls Try.prog 4 #[.slice (some ⟨w.heap.size + 1 + 1, 0, none⟩) 2 2, .slice (some ⟨w.heap.size + 1 + 1 + 1, 0, none⟩) 2 2] (newq w) (KT w 2 1 k1) := by
  rw [tab2_size w #[.complex .f64 4607182418800017408 0] #[.complex .f64 4613937818241073152 0] 1 1]
  exact (t4 (n := 2) (m := 1) ((ti2 w [(4607182418800017408, 0)] [(4613937818241073152, 0)] rfl rfl rfl rfl).up (Up.alloc _ _)) (fd_new _ 30 [4611686018427387904, 4607182418800017408] rfl rfl) (by omega) (by omega) (by omega) (by omega) (by omega)).mono fun _ _ h => h.known ((tab2_up _ _ _ _ _).trans (Up.alloc _ _)) k1 (by decide) (by decide +kernel)
/-- Rows of noughts, each in a block of its own: k of n are laid. -/
structure LR (w wr : World) (R n m k : Nat) (l : List Value) : Prop where
  row : wr.ownsRow w.heap.size 27 1 (.slice (some ⟨R, 0, none⟩) n n) n l
  len : l.length = n
  lo : w.heap.size ≤ R
  done : ∀ i, i < k → ∃ G, l[i]? = some (.slice (some ⟨G, 0, none⟩) m m) ∧ G ≠ R ∧ RD wr G 0 m (fun _ => (0, 0))
  up : Up w wr
theorem LR.start {w w1 : World} {R n m : Nat} (h : MadeS n R w w1) : LR w w1 R n m 0 (List.replicate n (.slice none 0 0)) := by
  obtain ⟨e1, r1, u1⟩ := h
  exact ⟨owns_down r1 (by omega), by simp, by omega, fun i hi => by omega, u1⟩
theorem LR.cell {w wr : World} {R n m k : Nat} {l : List Value} (h : LR w wr R n m k l) {w1 : World} (hu : Up wr w1) {i : Nat} (hi : i < n) : ∃ v, w1.cell? ⟨R, i, none⟩ = some v ∧ w1.frozen? ⟨R, i, none⟩ = false := by
  have hl := h.len
  have hr := owns_up h.row hu
  exact ⟨l[i]'(by omega), by rw [World.ownsRow.cellAt hr i (by omega), List.getElem?_eq_getElem (by omega)], World.ownsRow.frozenAt hr i⟩
theorem LR.put {w wr w1 : World} {R n m k g : Nat} {l : List Value} (h : LR w wr R n m k l) (hk : k < n) (hm : Made m g wr w1) : LR w (w1.setCell ⟨R, k, none⟩ (.slice (some ⟨g, 0, none⟩) m m)) R n m (k + 1) (l.set k (.slice (some ⟨g, 0, none⟩) m m)) := by
  obtain ⟨e1, r1, u1⟩ := hm
  have hl := h.len
  have hR : R < wr.heap.size := (World.ownsRow.lt h.row _ rfl).2
  obtain ⟨s1, s2⟩ := World.ownsRow.stored (owns_up h.row u1) k (.slice (some ⟨g, 0, none⟩) m m)
  have hb : But R w1 (w1.setCell ⟨R, k, none⟩ (.slice (some ⟨g, 0, none⟩) m m)) := s2
  refine ⟨s1, by simpa using hl, h.lo, fun i hi => ?_, hb.up (h.up.trans u1) h.lo⟩
  rw [List.getElem?_set]
  by_cases e : k = i
  · subst e
    refine ⟨g, by rw [if_pos rfl, if_pos (by omega)], by omega, hb.rd (by omega) fun j hj => ?_⟩
    rw [Nat.zero_add, r1.cell (by simpa using hj), getElem!_pos _ j (by simpa using hj)]
    simp [ce]
  · obtain ⟨G, k1, k2, k3⟩ := h.done i (by omega)
    exact ⟨G, by rw [if_neg e]; exact k1, k2, hb.rd k2 (k3.up u1)⟩
/-- A table of noughts, its rows wherever they are. -/
def RW (w : World) (R n m : Nat) : Prop := ∃ G, TI w R n m (fun i => some ⟨G i, 0, none⟩) (fun _ => m) G (fun _ => 0) (fun _ _ => (0, 0))
theorem LR.done' {w wr : World} {R n m : Nat} {l : List Value} (h : LR w wr R n m n l) : RW wr R n m := by
  have hG : ∀ i, ∃ G, i < n → (l[i]? = some (.slice (some ⟨G, 0, none⟩) m m) ∧ RD wr G 0 m (fun _ => (0, 0))) := fun i => by
    by_cases hi : i < n
    · obtain ⟨G, k1, _, k3⟩ := h.done i hi
      exact ⟨G, fun _ => ⟨k1, k3⟩⟩
    · exact ⟨0, fun h => absurd h hi⟩
  obtain ⟨G, hG⟩ := Classical.axiomOfChoice hG
  exact ⟨G, fun i hi => by rw [World.ownsRow.cellAt h.row i (by omega)]; exact (hG i hi).1, fun i hi _ => ⟨rfl, (hG i hi).2⟩, fun _ _ => Nat.le_refl _⟩
theorem RW.up {w w' : World} {R n m : Nat} (h : RW w R n m) (hu : Up w w') : RW w' R n m := by
  obtain ⟨G, h⟩ := h
  exact ⟨G, h.up hu⟩
theorem RW.take {w : World} {R n m k : Nat} (h : RW w R n m) (hk : k ≤ n) : RW w R k m := by
  obtain ⟨G, h⟩ := h
  exact ⟨G, fun i hi => h.tb i (by omega), fun i hi => h.rd i (by omega), fun i hi => h.room i (by omega)⟩
theorem c9 {w : World} {R : Nat} (h : Hid (RW w R 257 2)) : Calls Try.prog 6 #[.slice (some ⟨R, 0, none⟩) 257 257] w (ER 3 w) := by
  obtain ⟨G, h⟩ := h.out
  exact t6e (b0 := false) (b1 := true) (even_t9 h.tb (by omega) (by omega) (by omega)) (fun _ w' hu => t11a ((h.tv (by omega)).up hu) (by omega) (by omega)) rfl rfl
theorem c10 {w : World} {R : Nat} (h : Hid (RW w R 257 2)) : Calls Try.prog 6 #[.slice (some ⟨R, 0, none⟩) 256 257] w (LT w 2) := by
  obtain ⟨G, h⟩ := h.out.take (k := 256) (by omega)
  exact (t6 h (by omega) (by omega) (by omega) (by omega)).mono fun _ _ h => h.lt (Up.refl _)
theorem c12 {w : World} {R : Nat} (h : Hid (RW w R 17 16384)) : Calls Try.prog 6 #[.slice (some ⟨R, 0, none⟩) 17 17] w (ER 3 w) := by
  obtain ⟨G, h⟩ := h.out
  exact t6e (b0 := false) (b1 := true) (even_t9 h.tb (by omega) (by omega) (by omega)) (fun _ w' hu => t11c ((h.tv (by omega)).up hu) (by omega) (by omega) (by decide)) rfl rfl
theorem c13 {w : World} {R g : Nat} (h : RW w R 17 16384) : Calls Try.prog 5 #[.slice (some ⟨R, 0, none⟩) 16 17, .slice (some ⟨g, 0, none⟩) 65 65] w (ER 3 w) := by
  obtain ⟨G, h⟩ := h.take (k := 16) (by omega)
  exact t5e (b0 := false) (b1 := false) (b2 := false) (b3 := true) (even_t9 h.tb (by omega) (by omega) (by omega)) (by decide) (fun _ _ w' hu => t11c ((h.tv (by omega)).up hu) (by omega) (by omega) (by decide)) (fun _ _ _ => ⟨16384, h.tv (by omega), by omega, by omega, Or.inr ⟨by omega, by decide⟩⟩) rfl rfl
theorem c14 {w : World} {g : Nat} : Calls Try.prog 6 #[.slice (some ⟨w.heap.size, 0, none⟩) 1 1] (w.alloc (.cells #[.slice (some ⟨g, 0, none⟩) 16385 16385] 27)) (ER 3 w) := by
  have h : TB (w.alloc (.cells #[.slice (some ⟨g, 0, none⟩) 16385 16385] 27)) w.heap.size 1 (fun _ => some ⟨g, 0, none⟩) (fun _ => 16385) (fun _ => 16385) := fun i hi => by
    obtain rfl : i = 0 := by omega
    exact new_cell _ _ _ _ _ rfl
  exact (t6e (b0 := false) (b1 := true) (even_t9 h (by omega) (by omega) (by omega)) (fun _ w' hu => t11b ((h.tv (by omega)).up hu) (by omega) (by omega)) rfl rfl).mono fun _ _ h => h.base (Up.alloc _ _)
theorem c15 {w w1 : World} {R g : Nat} (h : RW w R 257 2) (hm : MadeF 256 g w w1) : Calls Try.prog 4 #[.slice (some ⟨R, 0, none⟩) 256 257, .slice (some ⟨g, 0, none⟩) 256 256] w1 (LT w1 256) := by
  obtain ⟨G, h⟩ := (h.up hm.2.2).take (k := 256) (by omega)
  have hf : FD w1 g 0 256 (fun _ => 0) := fun j hj => by
    rw [Nat.zero_add, World.ownsRow.cellAt hm.2.1 j (by omega), List.getElem?_replicate, if_pos hj]
  exact (t4 h hf (by omega) (by omega) (by omega) (by omega) (by omega)).mono fun _ _ h => h.lt (Up.refl _)
theorem up_drew (w : World) : Up w w.drew := Up.drewN w 1
theorem Made.up {n g : Nat} {w w' : World} (h : Made n g w w') : Up w w' := h.2.2
theorem MadeF.up {n g : Nat} {w w' : World} (h : MadeF n g w w') : Up w w' := h.2.2
theorem upon_makeSz {o : Oper} {a : Act} {next : Act → World → Prop} {Q : Exit → Act → World → Prop} {z : Int} {w : World} {F : Value → World → Result Next} (n : Nat) (hz : z = (n : Int)) (hn : n ≤ 1000000)
    (hk : ∀ g w', Hid (MadeS n g w w') → o.upon Try.prog a next Q (F (.slice (some ⟨g, 0, none⟩) n n) w')) :
    o.upon Try.prog a next Q (((Instr.makeSlice 22 (.int .i64 z) (.int .i64 z)).run Try.prog w).andThen F) := by
  subst hz; exact upon_makeS hn hk
theorem upon_makeCz {o : Oper} {a : Act} {next : Act → World → Prop} {Q : Exit → Act → World → Prop} {z : Int} {w : World} {F : Value → World → Result Next} (n : Nat) (hz : z = (n : Int)) (hn : n ≤ 1000000)
    (hk : ∀ g w', Hid (Made n g w w') → o.upon Try.prog a next Q (F (.slice (some ⟨g, 0, none⟩) n n) w')) :
    o.upon Try.prog a next Q (((Instr.makeSlice 27 (.int .i64 z) (.int .i64 z)).run Try.prog w).andThen F) := by
  subst hz; exact upon_makeC hn hk
theorem upon_makeFz {o : Oper} {a : Act} {next : Act → World → Prop} {Q : Exit → Act → World → Prop} {z : Int} {w : World} {F : Value → World → Result Next} (n : Nat) (hz : z = (n : Int)) (hn : n ≤ 1000000)
    (hk : ∀ g w', Hid (MadeF n g w w') → o.upon Try.prog a next Q (F (.slice (some ⟨g, 0, none⟩) n n) w')) :
    o.upon Try.prog a next Q (((Instr.makeSlice 31 (.int .i64 z) (.int .i64 z)).run Try.prog w).andThen F) := by
  subst hz; exact upon_makeF hn hk
end Go.Proofs.Ytablmkpfbhifnab

/- What the statements ask first. -/
import Derived.Test.YtablmkpfbhifnabBh
namespace Go.Proofs.Ytablmkpfbhifnab
open Go.ChangeShapes Go.WideShapes Go.ChangeAt Go.RowKit Go.Fl Ieee
attribute [local go_sem] run_store_float run_store_complex call49 call47 run_neg fold_eq fold_ne fold_lt fold_gt abs_eq

def so (p : Nat × Nat) : Option Nat × Option Nat := (some p.1, some p.2)
theorem of_so {a p : Nat × Nat} (h : ab2 a = so p) : a = p := by
  simp only [ab2, so, Prod.mk.injEq] at h
  exact Prod.ext (of_ab h.1) (of_ab h.2)
theorem rd_new (w : World) (t : TypeId) (d : List (Nat × Nat)) {cs : Array Value} {n : Nat} (hn : d.length = n) (h : cs = (d.map ce).toArray) : RD (w.alloc (.cells cs t)) w.heap.size 0 n (fun i => d[i]!) := by
  subst h
  subst hn
  intro j hj
  rw [cell_of_row _ _ _ _ _ _ (heap_alloc_last _ _)]
  simp [getElem!_pos d j hj, List.getElem?_eq_getElem hj]
theorem fd_new (w : World) (t : TypeId) (d : List Nat) {cs : Array Value} {n : Nat} (hn : d.length = n) (h : cs = (d.map (Value.float .f64)).toArray) : FD (w.alloc (.cells cs t)) w.heap.size 0 n (fun i => d[i]!) := by
  subst h
  subst hn
  intro j hj
  rw [cell_of_row _ _ _ _ _ _ (heap_alloc_last _ _)]
  simp [getElem!_pos d j hj, List.getElem?_eq_getElem hj]
/-- A table of two rows that is written out. -/
abbrev tab2 (w : World) (cs1 cs2 : Array Value) (k1 k2 : Nat) : World := ((w.alloc (.cells cs1 26)).alloc (.cells cs2 26)).alloc (.cells #[.slice (some ⟨w.heap.size, 0, none⟩) k1 k1, .slice (some ⟨w.heap.size + 1, 0, none⟩) k2 k2] 27)
theorem tab2_up (w : World) (cs1 cs2 : Array Value) (k1 k2 : Nat) : Up w (tab2 w cs1 cs2 k1 k2) := ((Up.alloc _ _).trans (Up.alloc _ _)).trans (Up.alloc _ _)
theorem tab2_size (w : World) (cs1 cs2 : Array Value) (k1 k2 : Nat) : w.heap.size + 1 + 1 + 1 = (tab2 w cs1 cs2 k1 k2).heap.size := by simp
theorem tb2 (w : World) {cs1 cs2 : Array Value} {k1 k2 : Nat} (l1 l2 : List (Nat × Nat)) (h1 : l1.length = k1) (h2 : l2.length = k2) (e1 : cs1 = (l1.map ce).toArray) (e2 : cs2 = (l2.map ce).toArray) :
    TB (tab2 w cs1 cs2 k1 k2) (w.heap.size + 1 + 1) 2 (fun i => some ⟨w.heap.size + i, 0, none⟩) (fun i => [k1, k2][i]!) (fun i => [k1, k2][i]!) ∧ ∀ i, i < 2 → RD (tab2 w cs1 cs2 k1 k2) (w.heap.size + i) 0 ([k1, k2][i]!) (fun j => [l1, l2][i]![j]!) := by
  have s1 := size_one w (.cells cs1 26)
  have s2 := size_one (w.alloc (.cells cs1 26)) (.cells cs2 26)
  rw [s1] at s2
  refine ⟨fun i hi => ?_, fun i hi => ?_⟩
  · rw [← s2]
    obtain rfl | rfl : i = 0 ∨ i = 1 := by omega
    · exact new_cell _ _ _ _ _ rfl
    · exact new_cell _ _ _ _ _ rfl
  · obtain rfl | rfl : i = 0 ∨ i = 1 := by omega
    · exact (rd_new w 26 l1 h1 e1).up ((Up.alloc _ _).trans (Up.alloc _ _))
    · have q := rd_new (w.alloc (.cells cs1 26)) 26 l2 h2 e2
      rw [s1] at q
      exact q.up (Up.alloc _ _)
theorem ti2 (w : World) {cs1 cs2 : Array Value} {m : Nat} (l1 l2 : List (Nat × Nat)) (h1 : l1.length = m) (h2 : l2.length = m) (e1 : cs1 = (l1.map ce).toArray) (e2 : cs2 = (l2.map ce).toArray) :
    TI (tab2 w cs1 cs2 m m) (w.heap.size + 1 + 1) 2 m (fun i => some ⟨w.heap.size + i, 0, none⟩) (fun _ => m) (fun i => w.heap.size + i) (fun _ => 0) (fun i j => [l1, l2][i]![j]!) := by
  obtain ⟨q1, q2⟩ := tb2 w l1 l2 h1 h2 e1 e2
  refine ⟨fun i hi => ?_, fun i hi _ => ⟨rfl, ?_⟩, fun i hi => Nat.le_refl _⟩
  · have := q1 i hi
    obtain rfl | rfl : i = 0 ∨ i = 1 := by omega
    · exact this
    · exact this
  · have := q2 i hi
    obtain rfl | rfl : i = 0 ∨ i = 1 := by omega
    · exact this
    · exact this
/-- A table whose numbers are known. -/
def KT (w : World) (n m : Nat) (K : List (Nat × Nat)) (e : Ending) (w' : World) : Prop := ∃ A B, e = .returned (.tuple #[.slice (some ⟨A, 0, none⟩) n n, .int .i64 0]) ∧ Hid (TB w' A n (fun i => some ⟨B, i * m, none⟩) (fun _ => m) (fun _ => m)) ∧ Hid (RD w' B 0 (n * m) (fun j => K[j]!)) ∧ Hid (Up w w')
theorem OKT.known {w0 w w' : World} {n m : Nat} {F : Nat → Nat → Option Nat × Option Nat} {e : Ending} (h : OKT w n m F e w') (hu : Up w0 w) (K : List (Nat × Nat)) (h0 : 0 < m) (hF : ∀ k, k < n → ∀ g, g < m → F k g = so K[k * m + g]!) : KT w0 n m K e w' := by
  obtain ⟨A, B, d, he, h1, h2⟩ := h
  refine ⟨A, B, he, h1.out.ans, fun j hj => ?_, hu.trans h1.out.up⟩
  have e1 : j / m * m + j % m = j := by rw [Nat.mul_comm]; exact Nat.div_add_mod j m
  have l1 : j / m < n := (Nat.div_lt_iff_lt_mul h0).2 hj
  have l2 : j % m < m := Nat.mod_lt _ h0
  have q := (h2.out _ l1 _ l2).trans (hF _ l1 _ l2)
  rw [e1] at q
  rw [Nat.zero_add, h1.out.all.cell (by rw [h1.out.all.len]; exact hj), of_so q]
  rfl
def l3 : List (Nat × Nat) := [(4607182418800017408, 0), (4611686018427387904, 0), (4613937818241073152, 0)]
def m3 : List (Nat × Nat) := [(0, 0), (4607182418800017408, 0), (0, 0)]
def p2 : List (Nat × Nat) := [(4607182418800017408, 0), (4607182418800017408, 0)]
def a2 : List (Nat × Nat) := [(4607182418800017408, 0), (4611686018427387904, 0)]
def b2 : List (Nat × Nat) := [(4613937818241073152, 0), (4617315517961601024, 0)]
def o2 : List Nat := [4607182418800017408, 4607182418800017408]
def s1 : List (Nat × Nat) := [(4613937818241073152, 4616189618054758400)]
def s2 : List (Nat × Nat) := [(4607182418800017408, 0), (0, 4607182418800017408)]
abbrev newr (w : World) : World := tab2 w #[.complex .f64 4607182418800017408 0, .complex .f64 4611686018427387904 0, .complex .f64 4613937818241073152 0] #[.complex .f64 0 0, .complex .f64 4607182418800017408 0, .complex .f64 0 0] 3 3
abbrev newrp (w : World) : World := (newr w).alloc (.cells #[.complex .f64 4607182418800017408 0, .complex .f64 4607182418800017408 0] 26)
abbrev newd (w : World) : World := (tab2 w #[.complex .f64 4607182418800017408 0, .complex .f64 4611686018427387904 0] #[.complex .f64 4613937818241073152 0, .complex .f64 4617315517961601024 0] 2 2).alloc (.cells #[.float .f64 4607182418800017408, .float .f64 4607182418800017408] 30)
abbrev news (w : World) : World := tab2 w #[.complex .f64 4613937818241073152 4616189618054758400] #[.complex .f64 4607182418800017408 0, .complex .f64 0 4607182418800017408] 1 2
def k5 : List (Nat × Nat) := [(4613937818241073152, 0), (4617315517961601024, 0), (4613937818241073152, 0), (4607182418800017408, 0), (4607182418800017408, 0), (0, 0)]
def k4 : List (Nat × Nat) := [(4616189618054758400, 0), (4619567317775286272, 0), (13835058055282163712, 0), (13837309855095848960, 0)]
def k6 : List (Nat × Nat) := [(4607182418800017408, 0), (0, 0), (4611686018427387904, 0), (4607182418800017408, 0), (4613937818241073152, 0), (0, 0)]
theorem ti_r (w : World) : TI (newr w) (w.heap.size + 1 + 1) 2 3 (fun i => some ⟨w.heap.size + i, 0, none⟩) (fun _ => 3) (fun i => w.heap.size + i) (fun _ => 0) (fun i j => [l3, m3][i]![j]!) := ti2 w l3 m3 rfl rfl rfl rfl
theorem w5a (w : World) : Calls Try.prog 5 #[.slice (some ⟨w.heap.size + 1 + 1, 0, none⟩) 2 2, .slice (some ⟨w.heap.size + 1 + 1 + 1, 0, none⟩) 2 2] (newrp w) (KT (newr w) 2 3 k5) := by
  rw [tab2_size w #[.complex .f64 4607182418800017408 0, .complex .f64 4611686018427387904 0, .complex .f64 4613937818241073152 0] #[.complex .f64 0 0, .complex .f64 4607182418800017408 0, .complex .f64 0 0] 3 3]
  exact (t5 (n := 2) (m := 3) (x := 2) ((ti_r w).up (Up.alloc _ _)) (rd_new (newr w) 26 p2 rfl rfl) (by omega) (by omega) (by omega) (by omega) (by omega) (by omega) (by omega) (by omega)).mono fun _ _ h => h.known (Up.alloc _ _) k5 (by decide) (by decide +kernel)
theorem w4a (w : World) : Calls Try.prog 4 #[.slice (some ⟨w.heap.size + 1 + 1, 0, none⟩) 2 2, .slice (some ⟨w.heap.size + 1 + 1 + 1, 0, none⟩) 2 2] (newd w) (KT w 2 2 k4) := by
  rw [tab2_size w #[.complex .f64 4607182418800017408 0, .complex .f64 4611686018427387904 0] #[.complex .f64 4613937818241073152 0, .complex .f64 4617315517961601024 0] 2 2]
  exact (t4 (n := 2) (m := 2) ((ti2 w a2 b2 rfl rfl rfl rfl).up (Up.alloc _ _)) (fd_new _ 30 o2 rfl rfl) (by omega) (by omega) (by omega) (by omega) (by omega)).mono fun _ _ h => h.known ((tab2_up _ _ _ _ _).trans (Up.alloc _ _)) k4 (by decide) (by decide +kernel)
theorem w6a {w w1 : World} (hu : Hid (Up (newr w) w1)) : Calls Try.prog 6 #[.slice (some ⟨w.heap.size + 1 + 1, 0, none⟩) 2 2] w1 (KT w1 3 2 k6) :=
  (t6 (n := 2) (m := 3) ((ti_r w).up hu.out) (by omega) (by omega) (by omega) (by omega)).mono fun _ _ h => h.known (Up.refl _) k6 (by decide) (by decide +kernel)
/-- What Powers leaves of two rows, of one and of two numbers. -/
def PK (w : World) (x : Nat) (e : Ending) (w' : World) : Prop := ∃ A B, e = .returned (.slice (some ⟨A, 0, none⟩) 2 2) ∧ w'.cell? ⟨A, 0, none⟩ = some (.slice (some ⟨B, 0, none⟩) 1 1) ∧ w'.cell? ⟨B, 0, none⟩ = some (.float .f64 x) ∧ Hid (Up w w')
theorem w21a (w : World) : Calls Try.prog 21 #[.slice (some ⟨w.heap.size + 1 + 1, 0, none⟩) 2 2] (news w) (PK w 4627730092099895296) :=
  (t21 (tb2 w s1 s2 rfl rfl rfl rfl).1 (fun i hi _ => ⟨rfl, (tb2 w s1 s2 rfl rfl rfl rfl).2 i hi⟩) (by omega) (fun i hi => by obtain rfl | rfl : i = 0 ∨ i = 1 := (by omega) <;> decide)).mono fun e w' ⟨A, l, he, h⟩ => by
    obtain ⟨B, h1, h2, h3, h4, h5⟩ := h.out.done 0 (by omega)
    obtain ⟨r, k1, k2⟩ := h5 0 (by decide)
    refine ⟨A, B, he, ?_, ?_, (tab2_up _ _ _ _ _).trans h.out.up⟩
    · rw [World.ownsRow.cellAt h.out.row 0 (by omega)]; exact h1
    · rw [k1]
      have e2 : pow2F ([s1, s2][0]![0]!) = some 4627730092099895296 := by decide +kernel
      rw [of_ab (k2.trans e2)]
def TU (w : World) (e : Ending) (w' : World) : Prop := e = .returned (.bool true) ∧ Hid (Up w w')
set_option maxRecDepth 100000 in
set_option maxHeartbeats 8000000 in
theorem t7 (w : World) : Calls Try.prog 7 #[] w (TU w) := by
  have q1 : eqF (ab 4617315517961601024) (ab 4617315517961601024) = true := by decide +kernel
  have q2 : eqF (ab 0) (ab 0) = true := by decide +kernel
  have q3 : eqF (ab 4607182418800017408) (ab 4607182418800017408) = true := by decide +kernel
  have q4 : eqF (ab 4619567317775286272) (ab 4619567317775286272) = true := by decide +kernel
  have q5 : eqF (ab 13835058055282163712) (ab 13835058055282163712) = true := by decide +kernel
  have q6 : eqF (ab 4611686018427387904) (ab 4611686018427387904) = true := by decide +kernel
  have q7 : eqF (ab 4627730092099895296) (ab 4627730092099895296) = true := by decide +kernel
  go_enter Try.func7, Try.ntmps7
  go_wp2_with (first
    | (go_at_call 5; (with_reducible refine (w5a _).mono ?_); rintro e w1 ⟨A1, B1, rfl, t1, r1, u1⟩)
    | (go_at_call 4; (with_reducible refine (w4a _).mono ?_); rintro e w2 ⟨A2, B2, rfl, t2, r2, u2⟩
       have v2 : Hid (Up (newr w) w2) := u1.out.trans u2.out)
    | (go_at_call 6; (with_reducible refine (w6a v2).mono ?_); rintro e w3 ⟨A3, B3, rfl, t3, r3, u3⟩)
    | (go_at_call 21; (with_reducible refine (w21a _).mono ?_); rintro e w4 ⟨A4, B4, rfl, c41, c42, u4⟩
       have U34 := u4.out
       have U24 := u3.out.trans U34
       have U14 := u2.out.trans U24
       have a10 : w4.cell? ⟨A1, 0, none⟩ = some (.slice (some ⟨B1, 0, none⟩) 3 3) := (t1.out.up U14) 0 (by omega)
       have a11 : w4.cell? ⟨A1, 1, none⟩ = some (.slice (some ⟨B1, 3, none⟩) 3 3) := (t1.out.up U14) 1 (by omega)
       have a20 : w4.cell? ⟨A2, 0, none⟩ = some (.slice (some ⟨B2, 0, none⟩) 2 2) := (t2.out.up U24) 0 (by omega)
       have a21 : w4.cell? ⟨A2, 1, none⟩ = some (.slice (some ⟨B2, 2, none⟩) 2 2) := (t2.out.up U24) 1 (by omega)
       have a31 : w4.cell? ⟨A3, 1, none⟩ = some (.slice (some ⟨B3, 2, none⟩) 2 2) := (t3.out.up U34) 1 (by omega)
       have b11 : w4.cell? ⟨B1, 1, none⟩ = some (.complex .f64 4617315517961601024 0) := (r1.out.up U14) 1 (by omega)
       have b14 : w4.cell? ⟨B1, 4, none⟩ = some (.complex .f64 4607182418800017408 0) := (r1.out.up U14) 4 (by omega)
       have b21 : w4.cell? ⟨B2, 1, none⟩ = some (.complex .f64 4619567317775286272 0) := (r2.out.up U24) 1 (by omega)
       have b22 : w4.cell? ⟨B2, 2, none⟩ = some (.complex .f64 13835058055282163712 0) := (r2.out.up U24) 2 (by omega)
       have b32 : w4.cell? ⟨B3, 2, none⟩ = some (.complex .f64 4611686018427387904 0) := (r3.out.up U34) 2 (by omega)
       have b33 : w4.cell? ⟨B3, 3, none⟩ = some (.complex .f64 4607182418800017408 0) := (r3.out.up U34) 3 (by omega)
       have U : Hid (Up w w4) := (tab2_up _ _ _ _ _).trans (u1.out.trans U14)
       clear t1 t2 t3 r1 r2 r3 u1 u2 u3 u4 U14 U24 U34 v2))
  go_ret
  exact ⟨rfl, U⟩
end Go.Proofs.Ytablmkpfbhifnab

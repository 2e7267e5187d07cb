/- Dwell: Cells, where no differences are taken. -/
import Derived.Test.YtflngnnoibkkoaaGreatEf
namespace Go.Proofs.YtflngnnoibkkoaaGreat
open Go.ChangeShapes Go.WideShapes Go.ChangeAt Go.RowKit Go.Fl Ieee
set_option maxRecDepth 200000
set_option maxHeartbeats 8000000
attribute [local go_sem] run_store_float run_store_complex run_store_fn call34 call33 run_neg fold_eq fold_ne fold_lt fold_gt abs_eq

/-- Rows of floats that lie apart from a block. -/
structure CM (w : World) (v : Value) (n m wb : Nat) (D : Nat → Array Nat) : Prop where
  ex : ∃ (A : Nat) (B : Nat → Nat), v = .slice (some ⟨A, 0, none⟩) n n ∧ A ≠ wb ∧ ∀ i, i < n → w.cell? ⟨A, i, none⟩ = some (.slice (some ⟨B i, 0, none⟩) m m) ∧ (D i).size = m ∧ B i ≠ wb ∧ ∀ g, g < m → w.cell? ⟨B i, g, none⟩ = some (.float .f64 (D i)[g]!)
theorem arr_of {m : Nat} {p : Nat → Nat → Prop} (h : ∀ g, g < m → ∃ r, p g r) : ∃ d : Array Nat, d.size = m ∧ ∀ g, g < m → p g d[g]! := by
  induction m with
  | zero => exact ⟨#[], rfl, fun g hg => by omega⟩
  | succ m ih =>
    obtain ⟨d, hd, hp⟩ := ih (fun g hg => h g (by omega))
    obtain ⟨r, hr⟩ := h m (by omega)
    refine ⟨d.push r, by simp [hd], fun g hg => ?_⟩
    by_cases q : g = m
    · subst q
      have : (d.push r)[g]! = r := by simp [← hd]
      rw [this]
      exact hr
    · have : (d.push r)[g]! = d[g]! := by
        rw [getElem!_pos _ g (by simp [hd]; omega), getElem!_pos _ g (by omega), Array.getElem_push_lt]
      rw [this]
      exact hp g (by omega)
theorem fun_of {n : Nat} {α : Type} [Inhabited α] {p : Nat → α → Prop} (h : ∀ i, i < n → ∃ x, p i x) : ∃ F : Nat → α, ∀ i, i < n → p i (F i) := by
  induction n with
  | zero => exact ⟨fun _ => default, fun i hi => by omega⟩
  | succ n ih =>
    obtain ⟨F, hF⟩ := ih (fun i hi => h i (by omega))
    obtain ⟨x, hx⟩ := h n (by omega)
    refine ⟨fun i => if i = n then x else F i, fun i hi => ?_⟩
    by_cases q : i = n
    · subst q
      simp only [if_true]
      exact hx
    · simp only [if_neg q]
      exact hF i (by omega)
theorem PI.cm {W V w' : World} {A n m wb : Nat} {f : Nat → Nat → Nat × Nat} {l : List Value} {v0 : Value} (h : PI W V A A n (fun _ => m) f n l) (hb : But wb V w') (hw : wb < W.heap.size) (hv : V.cell? ⟨wb, 0, none⟩ = some v0) (hv0 : ∀ r, v0 ≠ .float .f64 r) (hm : 0 < m) : ∃ D, CM w' (.slice (some ⟨A, 0, none⟩) n n) n m wb D ∧ ∀ i, i < n → ∀ g, g < m → ab (D i)[g]! = pow2F (f i g) := by
  have hA : A ≠ wb := by have := h.lo; omega
  have key : ∀ i, i < n → ∃ x : Nat × Array Nat, V.cell? ⟨A, i, none⟩ = some (.slice (some ⟨x.1, 0, none⟩) m m) ∧ x.2.size = m ∧ x.1 ≠ wb ∧ ∀ g, g < m → V.cell? ⟨x.1, g, none⟩ = some (.float .f64 x.2[g]!) ∧ ab x.2[g]! = pow2F (f i g) := fun i hi => by
    obtain ⟨B, h1, h2, h3, h4, h5⟩ := h.done i hi
    obtain ⟨d, hd, hp⟩ := arr_of h5
    refine ⟨(B, d), ?_, hd, fun e => ?_, hp⟩
    · have := World.ownsRow.cellAt h.row i (by omega)
      exact this.trans h1
    · have := (hp 0 hm).1
      have e' : B = wb := e
      simp only [e', hv] at this
      exact hv0 _ (Option.some.inj this)
  obtain ⟨F, hF⟩ := fun_of key
  refine ⟨fun i => (F i).2, ⟨A, fun i => (F i).1, rfl, hA, fun i hi => ?_⟩, fun i hi g hg => ((hF i hi).2.2.2 g hg).2⟩
  obtain ⟨k1, k2, k3, k4⟩ := hF i hi
  exact ⟨hb.cell hA k1, k2, k3, fun g hg => hb.cell k3 (k4 g hg).1⟩
/-- The steps to cells. -/
def TcR (w : World) (c v r : Nat) (E R cd win can way gu tr nth : Int) (ti no : Nat) (sv : Value) (e : Ending) (w' : World) : Prop := ∃ sg b2 b3, e = .returned (.slice (some ⟨sg, 0, none⟩) 4 4) ∧ Hid (w'.cell? ⟨sg, 0, none⟩ = some (.func (.func 59) #[] #[.pointer (some ⟨b3, 0, none⟩)]) ∧ w'.cell? ⟨sg, 1, none⟩ = some (.func (.func 61) #[] #[.pointer (some ⟨b2, 0, none⟩)]) ∧ w'.cell? ⟨sg, 2, none⟩ = some (.func (.func 63) #[] #[.pointer (some ⟨b2, 0, none⟩)]) ∧ w'.cell? ⟨sg, 3, none⟩ = some (.func (.func 66) #[] #[])) ∧ Hid (SB w' b2 c v r E R cd win can way gu tr nth ti no) ∧ Hid (w'.cell? ⟨b3, 0, none⟩ = some sv) ∧ Hid (Up w w') ∧ Hid (w.heap.size ≤ sg ∧ w.heap.size ≤ b2 ∧ w.heap.size ≤ b3)
theorem t32 (c v r : Nat) (E R cd win can way gu tr nth : Int) (ti no : Nat) (p : Option Addr) (x pc : Nat) (w : World) : Calls Tryz.prog 32 #[.agg #[.float .f64 c, .float .f64 v, .float .f64 r, .int .i64 E, .int .i64 R, .int .i64 cd, .int .i8 win, .int .i64 can, .int .i8 way, .int .i64 gu, .int .i64 tr, .int .i64 nth, .float .f64 ti, .float .f64 no], .slice p x pc] w (TcR w c v r E R cd win can way gu tr nth ti no (.slice p x pc)) := by
  have HS0 : Hid (SB (w.alloc (.cells #[.float .f64 c, .float .f64 v, .float .f64 r, .int .i64 E, .int .i64 R, .int .i64 cd, .int .i8 win, .int .i64 can, .int .i8 way, .int .i64 gu, .int .i64 tr, .int .i64 nth, .float .f64 ti, .float .f64 no] 27)) w.heap.size c v r E R cd win can way gu tr nth ti no) := SB.new w c v r E R cd win can way gu tr nth ti no
  go_enter Tryz.func32, Tryz.ntmps32
  go_wp2
  go_ret
  have n1 : (w.alloc (.cells #[.float .f64 c, .float .f64 v, .float .f64 r, .int .i64 E, .int .i64 R, .int .i64 cd, .int .i8 win, .int .i64 can, .int .i8 way, .int .i64 gu, .int .i64 tr, .int .i64 nth, .float .f64 ti, .float .f64 no] 27)).heap.size = w.heap.size + 1 := by simp
  have n2 : ((w.alloc (.cells #[.float .f64 c, .float .f64 v, .float .f64 r, .int .i64 E, .int .i64 R, .int .i64 cd, .int .i8 win, .int .i64 can, .int .i8 way, .int .i64 gu, .int .i64 tr, .int .i64 nth, .float .f64 ti, .float .f64 no] 27)).alloc (.cells #[.slice p x pc] 34)).heap.size = w.heap.size + 1 + 1 := by simp
  refine ⟨w.heap.size + 1 + 1, w.heap.size, w.heap.size + 1, rfl, ⟨?_, ?_, ?_, ?_⟩, HS0.out.up ((Up.alloc _ _).trans (Up.alloc _ _)), ?_, (((Up.alloc _ _).trans (Up.alloc _ _)).trans (Up.alloc _ _)), ?_⟩
  · have := new_cell ((w.alloc (.cells #[.float .f64 c, .float .f64 v, .float .f64 r, .int .i64 E, .int .i64 R, .int .i64 cd, .int .i8 win, .int .i64 can, .int .i8 way, .int .i64 gu, .int .i64 tr, .int .i64 nth, .float .f64 ti, .float .f64 no] 27)).alloc (.cells #[.slice p x pc] 34)) #[.func (.func 59) #[] #[.pointer (some ⟨w.heap.size + 1, 0, none⟩)], .func (.func 61) #[] #[.pointer (some ⟨w.heap.size, 0, none⟩)], .func (.func 63) #[] #[.pointer (some ⟨w.heap.size, 0, none⟩)], .func (.func 66) #[] #[]] 100 0 _ rfl
    rwa [n2] at this
  · have := new_cell ((w.alloc (.cells #[.float .f64 c, .float .f64 v, .float .f64 r, .int .i64 E, .int .i64 R, .int .i64 cd, .int .i8 win, .int .i64 can, .int .i8 way, .int .i64 gu, .int .i64 tr, .int .i64 nth, .float .f64 ti, .float .f64 no] 27)).alloc (.cells #[.slice p x pc] 34)) #[.func (.func 59) #[] #[.pointer (some ⟨w.heap.size + 1, 0, none⟩)], .func (.func 61) #[] #[.pointer (some ⟨w.heap.size, 0, none⟩)], .func (.func 63) #[] #[.pointer (some ⟨w.heap.size, 0, none⟩)], .func (.func 66) #[] #[]] 100 1 _ rfl
    rwa [n2] at this
  · have := new_cell ((w.alloc (.cells #[.float .f64 c, .float .f64 v, .float .f64 r, .int .i64 E, .int .i64 R, .int .i64 cd, .int .i8 win, .int .i64 can, .int .i8 way, .int .i64 gu, .int .i64 tr, .int .i64 nth, .float .f64 ti, .float .f64 no] 27)).alloc (.cells #[.slice p x pc] 34)) #[.func (.func 59) #[] #[.pointer (some ⟨w.heap.size + 1, 0, none⟩)], .func (.func 61) #[] #[.pointer (some ⟨w.heap.size, 0, none⟩)], .func (.func 63) #[] #[.pointer (some ⟨w.heap.size, 0, none⟩)], .func (.func 66) #[] #[]] 100 2 _ rfl
    rwa [n2] at this
  · have := new_cell ((w.alloc (.cells #[.float .f64 c, .float .f64 v, .float .f64 r, .int .i64 E, .int .i64 R, .int .i64 cd, .int .i8 win, .int .i64 can, .int .i8 way, .int .i64 gu, .int .i64 tr, .int .i64 nth, .float .f64 ti, .float .f64 no] 27)).alloc (.cells #[.slice p x pc] 34)) #[.func (.func 59) #[] #[.pointer (some ⟨w.heap.size + 1, 0, none⟩)], .func (.func 61) #[] #[.pointer (some ⟨w.heap.size, 0, none⟩)], .func (.func 63) #[] #[.pointer (some ⟨w.heap.size, 0, none⟩)], .func (.func 66) #[] #[]] 100 3 _ rfl
    rwa [n2] at this
  · have := new_cell (w.alloc (.cells #[.float .f64 c, .float .f64 v, .float .f64 r, .int .i64 E, .int .i64 R, .int .i64 cd, .int .i8 win, .int .i64 can, .int .i8 way, .int .i64 gu, .int .i64 tr, .int .i64 nth, .float .f64 ti, .float .f64 no] 27)) #[.slice p x pc] 34 0 _ rfl
    rw [n1] at this
    exact cell_up this (Up.alloc _ _)
  · exact ⟨by omega, by omega, by omega⟩
end Go.Proofs.YtflngnnoibkkoaaGreat
/- Dwell: Cells, where no differences are taken. -/
namespace Go.Proofs.YtflngnnoibkkoaaGreat
open Go.ChangeShapes Go.WideShapes Go.ChangeAt Go.RowKit Go.Fl Ieee
set_option maxRecDepth 200000
set_option maxHeartbeats 8000000
attribute [local go_sem] run_store_float run_store_complex run_store_fn call34 call33 run_neg fold_eq fold_ne fold_lt fold_gt abs_eq

theorem some_if {c : Prop} [Decidable c] {a b : List (Option Nat × Option Nat)} {x y : Int} (ha : x = 0 → 1 ≤ a.length) (hb : y = 0 → 1 ≤ b.length) : (if c then x else y) = 0 → 1 ≤ (if c then a else b).length := by
  split
  · exact ha
  · exact hb
theorem some_barker {m : Int} (h : 1 ≤ (rowS m).size) : 1 ≤ (barkerL m).length := by
  unfold barkerL
  rw [List.length_map, List.length_range]
  exact h
theorem code_some (n : Int) : codeE n = 0 → 1 ≤ (codeL n).length := by
  unfold codeE codeL
  refine some_if (fun _ => by decide) (some_if (fun _ => some_barker (by decide +kernel)) (some_if (fun _ => some_barker (by decide +kernel)) (some_if (fun _ => some_barker (by decide +kernel)) (some_if (fun _ => some_barker (by decide +kernel)) (some_if (fun _ => some_barker (by decide +kernel)) (some_if (fun _ => some_barker (by decide +kernel)) (some_if (fun _ => some_barker (by decide +kernel)) (some_if ?_ (some_if ?_ (some_if ?_ (some_if ?_ (some_if ?_ (fun h => by cases h)))))))))))))
  · intro _; unfold frankL; simp
  · intro _; unfold frankL; simp
  · intro _
    have h : fin (ab 4620693217682128896) = true := by decide +kernel
    unfold chirpL
    simp [h]
  · intro _
    have h : fin (ab 4625196817309499392) = true := by decide +kernel
    unfold chirpL
    simp [h]
  · intro _; unfold stepsL; simp [order12]
/-- What becomes of rows: compressed, as they are, parted by speed. -/
def Piped (n m nL : Nat) (win : Int) (f : Nat → Nat → Nat × Nat) (fp : Nat → Nat × Nat) (f3 : Nat → Nat → Nat × Nat) : Prop := ∃ (f1 f2 : Nat → Nat → Nat × Nat) (fw : Nat → Nat), (∀ k, k < n → ∀ g, g < m → ab2 (f1 k g) = heldF (f k) m fp nL g) ∧ (∀ k, k < n → ∀ g, g < m → ab2 (f2 k g) = ab2 (f1 k g)) ∧ (∀ j, j < n → ab (fw j) = weightF win n j) ∧ ∀ k, k < n → ∀ g, g < m → ab2 (f3 k g) = dopF n f2 fw k g
/-- The work, step by step. -/
def IC (w0 : World) (wb A c n m nL : Nat) (win : Int) (f : Nat → Nat → Nat × Nat) (fp : Nat → Nat × Nat) : Nat → World → Prop
  | 0, w => But wb w0 w ∧ WS w wb (.slice (some ⟨A, 0, none⟩) n c) (.slice none 0 0) (.slice none 0 0) (.slice none 0 0)
  | 1, w => But wb w0 w ∧ ∃ (v : Value) (f1 : Nat → Nat → Nat × Nat), WS w wb v (.slice none 0 0) (.slice none 0 0) (.slice none 0 0) ∧ TX w v n m wb f1 ∧ (∀ k, k < n → ∀ g, g < m → ab2 (f1 k g) = heldF (f k) m fp nL g)
  | 2, w => But wb w0 w ∧ ∃ (v : Value) (f1 f2 : Nat → Nat → Nat × Nat), WS w wb v (.slice none 0 0) (.slice none 0 0) (.slice none 0 0) ∧ TX w v n m wb f2 ∧ (∀ k, k < n → ∀ g, g < m → ab2 (f1 k g) = heldF (f k) m fp nL g) ∧ (∀ k, k < n → ∀ g, g < m → ab2 (f2 k g) = ab2 (f1 k g))
  | 3, w => But wb w0 w ∧ ∃ (v : Value) (f3 : Nat → Nat → Nat × Nat), WS w wb v (.slice none 0 0) (.slice none 0 0) (.slice none 0 0) ∧ TX w v n m wb f3 ∧ Piped n m nL win f fp f3
  | _, w => But wb w0 w ∧ ∃ (v0 v : Value) (f3 : Nat → Nat → Nat × Nat) (D : Nat → Array Nat), WS w wb v0 v (.slice none 0 0) (.slice none 0 0) ∧ CM w v n m wb D ∧ Piped n m nL win f fp f3 ∧ ∀ i, i < n → ∀ g, g < m → ab (D i)[g]! = pow2F (f3 i g)
/-- What stands where the steps are taken. -/
structure TcW (w0 : World) (wb sg b2 b3 A c n m nL pg pc : Nat) (win : Int) (f : Nat → Nat → Nat × Nat) (fp : Nat → Nat × Nat) : Prop where
  s0 : w0.cell? ⟨sg, 0, none⟩ = some (.func (.func 59) #[] #[.pointer (some ⟨b3, 0, none⟩)])
  s1 : w0.cell? ⟨sg, 1, none⟩ = some (.func (.func 61) #[] #[.pointer (some ⟨b2, 0, none⟩)])
  s2 : w0.cell? ⟨sg, 2, none⟩ = some (.func (.func 63) #[] #[.pointer (some ⟨b2, 0, none⟩)])
  s3 : w0.cell? ⟨sg, 3, none⟩ = some (.func (.func 66) #[] #[])
  cn : w0.cell? ⟨b2, 7, none⟩ = some (.int .i64 0)
  wn : w0.cell? ⟨b2, 6, none⟩ = some (.int .i8 win)
  cd : w0.cell? ⟨b3, 0, none⟩ = some (.slice (some ⟨pg, 0, none⟩) nL pc)
  rd : RD w0 pg 0 nL fp
  tx : TX w0 (.slice (some ⟨A, 0, none⟩) n c) n m wb f
  ns : sg ≠ wb ∧ b2 ≠ wb ∧ b3 ≠ wb ∧ pg ≠ wb
  lt : wb < w0.heap.size
  bn : 1 ≤ n ∧ n ≤ 256 ∧ 1 ≤ m ∧ m ≤ 16384 ∧ 1 ≤ nL ∧ nL ≤ 160 ∧ n * m ≤ 262144 ∧ n * m * nL ≤ 16777216 ∧ n * m * n ≤ 16777216
def GC : Nat → FuncId := fun i => if i = 0 then 59 else if i = 1 then 61 else if i = 2 then 63 else 66
def KC (b2 b3 : Nat) : Nat → Array Value := fun i => if i = 0 then #[.pointer (some ⟨b3, 0, none⟩)] else if i = 3 then #[] else #[.pointer (some ⟨b2, 0, none⟩)]
theorem IC.but {w0 w : World} {wb A c n m nL : Nat} {win : Int} {f : Nat → Nat → Nat × Nat} {fp : Nat → Nat × Nat} : ∀ {i : Nat}, IC w0 wb A c n m nL win f fp i w → But wb w0 w
  | 0, h => h.1
  | 1, h => h.1
  | 2, h => h.1
  | 3, h => h.1
  | _ + 4, h => h.1
theorem TcW.fn {w0 : World} {wb sg b2 b3 A c n m nL pg pc : Nat} {win : Int} {f : Nat → Nat → Nat × Nat} {fp : Nat → Nat × Nat} (h : TcW w0 wb sg b2 b3 A c n m nL pg pc win f fp) (i : Nat) (hi : i < 4) (W : World) (hW : But wb w0 W) : W.cell? ⟨sg, i, none⟩ = some (.func (.func (GC i)) #[] (KC b2 b3 i)) := by
  obtain rfl | rfl | rfl | rfl : i = 0 ∨ i = 1 ∨ i = 2 ∨ i = 3 := by omega
  · exact hW.cell h.ns.1 h.s0
  · exact hW.cell h.ns.1 h.s1
  · exact hW.cell h.ns.1 h.s2
  · exact hW.cell h.ns.1 h.s3
theorem enters_c (i : Nat) (_hi : i < 4) : ∀ args w, (callFunc (GC i) args).run Tryz.prog w = .ok (.enter (GC i) args) w := by
  obtain rfl | rfl | rfl | rfl : i = 0 ∨ i = 1 ∨ i = 2 ∨ i = 3 := by omega
  · exact fun _ _ => enters Tryz.func59 (by kernel_rfl) (by kernel_rfl) _ _
  · exact fun _ _ => enters Tryz.func61 (by kernel_rfl) (by kernel_rfl) _ _
  · exact fun _ _ => enters Tryz.func63 (by kernel_rfl) (by kernel_rfl) _ _
  · exact fun _ _ => enters Tryz.func66 (by kernel_rfl) (by kernel_rfl) _ _
theorem TcW.at' {w0 : World} {wb sg b2 b3 A c n m nL pg pc : Nat} {win : Int} {f : Nat → Nat → Nat × Nat} {fp : Nat → Nat × Nat} (h : TcW w0 wb sg b2 b3 A c n m nL pg pc win f fp) (i : Nat) (hi : i < 4) (W : World) (hW : IC w0 wb A c n m nL win f fp i W) : Calls Tryz.prog (GC i) (#[.pointer (some ⟨wb, 0, none⟩)] ++ KC b2 b3 i) W (fun e w' => e = .returned (.int .i64 0) ∧ Hid (IC w0 wb A c n m nL win f fp (i + 1) w')) := by
  obtain ⟨n1, n2, m1, m2, l1, l2, k1, k2, k3⟩ := h.bn
  have hB := hW.but
  obtain rfl | rfl | rfl | rfl : i = 0 ∨ i = 1 ∨ i = 2 ∨ i = 3 := by omega
  · obtain ⟨A', c', P, C, G, O, e, hc, ht, -, -⟩ := (h.tx.but hB).ex
    simp only [Value.slice.injEq, Option.some.injEq, Addr.mk.injEq, and_true, true_and] at e
    obtain ⟨rfl, rfl⟩ := e
    refine (t59 hW.2 ht (hB.cell h.ns.2.2.1 h.cd) (hB.rd h.ns.2.2.2 h.rd) (by omega) (by omega) (by omega) n2 m2 (by omega) k1 k2).mono ?_
    rintro e w' ⟨rfl, v, f1, q1, q2, q3, q4⟩
    exact ⟨rfl, hB.trans q3.out, v, f1, q1.out, q2.out, q4.out⟩
  · obtain ⟨-, v, f1, q1, q2, q3⟩ := hW
    obtain ⟨A', c', P, C, G, O, rfl, hc, ht, -, -⟩ := q2.ex
    refine (t61 q1 ht hc (hB.cell h.ns.2.1 h.cn) n1 n2 m2 k1).mono ?_
    rintro e w' ⟨rfl, v, f2, r1, r2, r3, r4⟩
    exact ⟨rfl, hB.trans r3.out, v, f1, f2, r1.out, r2.out, q3, r4.out⟩
  · obtain ⟨-, v, f1, f2, q1, q2, q3, q4⟩ := hW
    obtain ⟨A', c', P, C, G, O, rfl, hc, ht, -, -⟩ := q2.ex
    refine (t63 q1 ht (hB.cell h.ns.2.1 h.wn) (by omega) n2 m2 k1 k3).mono ?_
    rintro e w' ⟨fw, hfw, rfl, v, f3, r1, r2, r3, r4⟩
    exact ⟨rfl, hB.trans r3.out, v, f3, r1.out, r2.out, f1, f2, fw, q3, q4, hfw.out, r4.out⟩
  · obtain ⟨-, v, f3, q1, q2, q3⟩ := hW
    obtain ⟨A', c', P, C, G, O, rfl, hc, ht, -, -⟩ := q2.ex
    refine (t66 q1 ht (by omega) (by omega)).mono ?_
    rintro e w' ⟨rfl, V, A1, l, r1, r2, r3⟩
    have hb2 : But wb V w' := by rw [r3.out]; exact but_set _ _ _ _
    obtain ⟨D, d1, d2⟩ := r2.out.cm hb2 q1.lt (cell_up q1.c0 r2.out.up) (fun r e => by cases e) (by omega)
    exact ⟨rfl, (hB.trans (But.of_up r2.out.up)).trans hb2, _, _, f3, D, r1.out, d1, q3, d2⟩
/-- The four steps. -/
theorem TcW.run {w0 : World} {wb sg b2 b3 A c n m nL pg pc : Nat} {win : Int} {f : Nat → Nat → Nat × Nat} {fp : Nat → Nat × Nat} (h : TcW w0 wb sg b2 b3 A c n m nL pg pc win f fp) (h0 : WS w0 wb (.slice (some ⟨A, 0, none⟩) n c) (.slice none 0 0) (.slice none 0 0) (.slice none 0 0)) : Calls Tryz.prog 31 #[.pointer (some ⟨wb, 0, none⟩), .slice (some ⟨sg, 0, none⟩) 4 4] w0 (fun e w' => e = .returned (.int .i64 0) ∧ Hid (IC w0 wb A c n m nL win f fp 4 w')) :=
  t31 GC (KC b2 b3) (IC w0 wb A c n m nL win f fp) (by decide) (fun i hi W hW => h.fn i hi W hW.but) enters_c (fun i hi W hW => h.at' i hi W hW) ⟨But.refl _ _, h0⟩
end Go.Proofs.YtflngnnoibkkoaaGreat

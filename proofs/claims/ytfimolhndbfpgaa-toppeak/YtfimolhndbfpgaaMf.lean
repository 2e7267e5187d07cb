/- What the statements ask first. -/
import Derived.Test.YtfimolhndbfpgaaMe
namespace Go.Proofs.Ytfimolhndbfpgaa
open Go.ChangeShapes Go.WideShapes Go.ChangeAt Go.RowKit Go.Fl Ieee
attribute [local go_sem] run_store_float run_store_complex call29 call28 run_neg fold_eq fold_ne fold_lt fold_gt abs_eq

def so (p : Nat × Nat) : Option Nat × Option Nat := (some p.1, some p.2)
theorem known_list {d L : List (Nat × Nat)} (h : d.map ab2 = L.map so) : d = L := by
  have hl : d.length = L.length := by simpa using congrArg List.length h
  refine List.ext_getElem hl fun i hi hi' => ?_
  have e := congrArg (fun l => l[i]?) h
  simp only [List.getElem?_map, List.getElem?_eq_getElem hi, List.getElem?_eq_getElem hi', Option.map_some, Option.some.injEq, ab2, so, Prod.mk.injEq] at e
  exact Prod.ext (of_ab e.1) (of_ab e.2)
/-- A row that is known, in a block of its own. -/
def KR (b : Nat) (w' : World) (g n cap : Nat) (d : List (Nat × Nat)) : Prop := CRow b w' (.slice (some ⟨g, 0, none⟩) n cap) d ∧ d.length = n ∧ n ≤ cap
theorem KR.up {b : Nat} {w1 w2 : World} {g n cap : Nat} {d : List (Nat × Nat)} (h : KR b w1 g n cap d) (hu : Up w1 w2) : KR b w2 g n cap d := ⟨h.1.up hu, h.2⟩
theorem KR.cell {b : Nat} {w' : World} {g n cap : Nat} {d : List (Nat × Nat)} (h : KR b w' g n cap d) {i x y : Nat} (hi : i < n) (hd : d[i]! = (x, y)) : w'.cell? ⟨g, i, none⟩ = some (.complex .f64 x y) := by
  have := h.1.cell (i := i) (by rw [h.2.1]; exact hi)
  rw [hd] at this; exact this
theorem KR.rd {b : Nat} {w' : World} {g n cap : Nat} {d : List (Nat × Nat)} (h : KR b w' g n cap d) : RD w' g 0 n (fun i => d[i]!) := fun j hj => by rw [Nat.zero_add]; exact h.1.cell (by rw [h.2.1]; exact hj)
theorem KR.lt {b : Nat} {w' : World} {g n cap : Nat} {d : List (Nat × Nat)} (h : KR b w' g n cap d) : g < w'.heap.size := (World.ownsRow.lt h.1 _ rfl).2
def KL (b : Nat) (w : World) (n : Nat) (d : List (Nat × Nat)) (c : Int) (e : Ending) (w' : World) : Prop := ∃ g cap, e = .returned (.tuple #[.slice (some ⟨g, 0, none⟩) n cap, .int .i64 c]) ∧ Hid (KR b w' g n cap d) ∧ Hid (Up w w')
theorem row_kr {b : Nat} {w' : World} {v : Value} {n : Nat} {d : List (Nat × Nat)} (h : CRow b w' v d) (hn : d.length = n) (h0 : 0 < n) : ∃ g cap, v = .slice (some ⟨g, 0, none⟩) n cap ∧ KR b w' g n cap d := by
  obtain ⟨g, cap, rfl, hc⟩ := row_form h hn h0
  exact ⟨g, cap, rfl, h, hn, hc⟩
theorem PL.known {w0 w w' : World} {L : List (Option Nat × Option Nat)} {c : Int} {e : Ending} (h : PL w L c e w') (hu : Up w0 w) {d : List (Nat × Nat)} {n : Nat} (hL : L = d.map so) (hn : d.length = n) (h0 : 0 < n) : KL w.heap.size w0 n d c e w' := by
  obtain ⟨v, d', rfl, h1, h2, h3⟩ := h
  obtain rfl := known_list (h3.out.trans hL)
  obtain ⟨g, cap, rfl, hk⟩ := row_kr h1.out hn h0
  exact ⟨g, cap, rfl, hk, hu.trans h2.out⟩
theorem rd_new (w : World) (t : TypeId) (d : List (Nat × Nat)) {cs : Array Value} {n : Nat} (hn : d.length = n) (h : cs = (d.map ce).toArray) : RD (w.alloc (.cells cs t)) w.heap.size 0 n (fun i => d[i]!) := by
  subst h
  subst hn
  intro j hj
  rw [cell_of_row _ _ _ _ _ _ (heap_alloc_last _ _)]
  simp [getElem!_pos d j hj, List.getElem?_eq_getElem hj]
theorem lt_new (w : World) (o : Obj) : w.heap.size < (w.alloc o).heap.size := by simp
/-- Nothing, and a code. -/
def E0 (w : World) (c : Int) (e : Ending) (w' : World) : Prop := ∃ p cap, e = .returned (.tuple #[.slice p 0 cap, .int .i64 c]) ∧ Hid (Up w w')
theorem PL.empty {w0 w w' : World} {c : Int} {e : Ending} (h : PL w [] c e w') (hu : Up w0 w) : E0 w0 c e w' := by
  obtain ⟨v, d, rfl, h1, h2, h3⟩ := h
  have hd : d = [] := List.map_eq_nil_iff.1 h3.out
  subst hd
  obtain ⟨p, cap, rfl, _⟩ := own_form h1.out
  exact ⟨p, cap, rfl, hu.trans h2.out⟩
def TU (w : World) (e : Ending) (w' : World) : Prop := e = .returned (.bool true) ∧ Hid (Up w w')

def l3 : List (Nat × Nat) := [(4607182418800017408, 0), (4611686018427387904, 0), (4613937818241073152, 0)]
def p2 : List (Nat × Nat) := [(4607182418800017408, 0), (4607182418800017408, 0)]
def m3 : List (Nat × Nat) := [(4613937818241073152, 0), (4617315517961601024, 0), (4613937818241073152, 0)]
def a2 : List (Nat × Nat) := [(4607182418800017408, 0), (4611686018427387904, 0)]
def i2 : List (Nat × Nat) := [(4607182418800017408, 0), (0, 4607182418800017408)]
def d3 : List (Nat × Nat) := [(4607182418800017408, 0), (4611686018427387904, 4607182418800017408), (0, 4611686018427387904)]
abbrev newl3 (w : World) : World := w.alloc (.cells #[.complex .f64 4607182418800017408 0, .complex .f64 4611686018427387904 0, .complex .f64 4613937818241073152 0] 28)
abbrev newp2 (w : World) : World := w.alloc (.cells #[.complex .f64 4607182418800017408 0, .complex .f64 4607182418800017408 0] 28)
abbrev newa2 (w : World) : World := w.alloc (.cells #[.complex .f64 4607182418800017408 0, .complex .f64 4611686018427387904 0] 28)
abbrev newi2 (w : World) : World := w.alloc (.cells #[.complex .f64 4607182418800017408 0, .complex .f64 0 4607182418800017408] 28)
theorem match_l3 : (List.range 3).map (heldF (fun i => l3[i]!) 3 (fun i => p2[i]!) 2) = m3.map so := by decide +kernel
theorem dir_a2 : (List.range 3).map (dirF (fun i => a2[i]!) (fun i => i2[i]!)) = d3.map so := by decide +kernel
theorem size1 (w : World) (o : Obj) : w.heap.size + 1 = (w.alloc o).heap.size := by simp
theorem w7a (w : World) : Calls Try.prog 7 #[.slice (some ⟨w.heap.size, 0, none⟩) 3 3, .slice (some ⟨w.heap.size + 1, 0, none⟩) 2 2] (newp2 (newl3 w)) (KL (newp2 (newl3 w)).heap.size w 3 m3 0) := by
  rw [size1 w (.cells #[.complex .f64 4607182418800017408 0, .complex .f64 4611686018427387904 0, .complex .f64 4613937818241073152 0] 28)]
  exact (t7 w.heap.size 0 3 3 (newl3 w).heap.size 0 2 2 (fun i => l3[i]!) (fun i => p2[i]!) _ ((rd_new w 28 l3 rfl rfl).up (Up.alloc _ _)) (rd_new (newl3 w) 28 p2 rfl rfl) (by omega) (by omega) (by omega) (by omega) (by omega)).mono fun _ _ h => h.known ((Up.alloc _ _).trans (Up.alloc _ _)) match_l3 rfl (by omega)
theorem w11a (w : World) : Calls Try.prog 11 #[.slice (some ⟨w.heap.size, 0, none⟩) 2 2, .slice (some ⟨w.heap.size + 1, 0, none⟩) 2 2] (newi2 (newa2 w)) (KL (newi2 (newa2 w)).heap.size w 3 d3 0) := by
  rw [size1 w (.cells #[.complex .f64 4607182418800017408 0, .complex .f64 4611686018427387904 0] 28)]
  exact (t11 w.heap.size 0 2 (newa2 w).heap.size 0 2 (fun i => a2[i]!) (fun i => i2[i]!) _ ((rd_new w 28 a2 rfl rfl).up (Up.alloc _ _)) (rd_new (newa2 w) 28 i2 rfl rfl)).mono fun _ _ h => h.known ((Up.alloc _ _).trans (Up.alloc _ _)) dir_a2 rfl (by omega)
def SW (w : World) (e : Ending) (w' : World) : Prop := ∃ b gp cp gr, e = .returned (.tuple #[.pointer (some ⟨b, 0, none⟩), .int .i64 0]) ∧ Hid (ST w.heap.size w' b gp cp gr 2 p2 [(0, 0), (0, 0)] 0) ∧ Hid (Up w w')
theorem w13a (w : World) : Calls Try.prog 13 #[.slice (some ⟨w.heap.size, 0, none⟩) 2 2] (newp2 w) (SW (newp2 w)) :=
  (t13 w.heap.size 0 2 2 (fun i => p2[i]!) _ (rd_new w 28 p2 rfl rfl) (by omega) (by omega)).mono fun e w' ⟨b, gp, cp, gr, he, h1, h2⟩ => ⟨b, gp, cp, gr, he, h1, h2⟩
def FK (w0 w : World) (b gp cp gr : Nat) (e : Ending) (w' : World) : Prop := ∃ g cap d', e = .returned (.slice (some ⟨g, 0, none⟩) 1 cap) ∧ Hid (KR w.heap.size w' g 1 cap [(4613937818241073152, 0)]) ∧ Hid (ST w0.heap.size w' b gp cp gr 2 p2 d' 1 ∧ d'[0]! = (4611686018427387904, 0)) ∧ Hid (Up w0 w')
theorem feed_a2 : (List.range 1).map (heldF (fun i => (cut (fun i => a2[i]!) 0 2)[i]!) 2 (fun i => p2[i]!) 2) = [(4613937818241073152, 0)].map so := by decide +kernel
theorem w14a {w0 w : World} {b gp cp gr : Nat} (h : Hid (ST w0.heap.size w b gp cp gr 2 p2 [(0, 0), (0, 0)] 0)) (hu : Hid (Up w0 w)) : Calls Try.prog 14 #[.pointer (some ⟨b, 0, none⟩), .slice (some ⟨w.heap.size, 0, none⟩) 2 2] (newa2 w) (FK w0 (newa2 w) b gp cp gr) :=
  (t14 (h.out.up (Up.alloc _ _)) (hu.out.trans (Up.alloc _ _)) w.heap.size 0 2 (fun i => a2[i]!) (rd_new w 28 a2 rfl rfl)).mono fun e w' ⟨g, cap, d1, d', he, h1, h2, h3, h4⟩ => by
    obtain rfl := known_list (h2.out.trans feed_a2)
    obtain ⟨g', cap', hv, hk⟩ := row_kr (n := 1) h1.out rfl (by omega)
    simp only [Value.slice.injEq, Option.some.injEq, Addr.mk.injEq] at hv
    obtain ⟨⟨rfl, _⟩, _, rfl⟩ := hv
    exact ⟨g, cap, d', he, hk, h3, h4⟩
def EK (w : World) (b : Nat) (e : Ending) (w' : World) : Prop := ∃ g cap, e = .returned (.slice (some ⟨g, 0, none⟩) 1 cap) ∧ Hid (KR w.heap.size w' g 1 cap [(4611686018427387904, 0)]) ∧ Hid (But b w w')
theorem end_at {d : List (Nat × Nat)} (h : d[0]! = (4611686018427387904, 0)) : (List.range 1).map (heldF (fun i => d[i]!) 1 (fun i => p2[i]!) 2) = [(4611686018427387904, 0)].map so := by
  have e : heldF (fun i => d[i]!) 1 (fun i => p2[i]!) 2 0 = heldF (fun _ => (4611686018427387904, 0)) 1 (fun i => p2[i]!) 2 0 := by
    show (dotR _ _ 0, dotI _ _ 0) = (dotR _ _ 0, dotI _ _ 0)
    simp only [dotR, dotI, Nat.zero_add, h]
  show [heldF _ _ _ _ 0] = _
  rw [e]
  decide +kernel
theorem w15a {b0 : Nat} {w : World} {b gp cp gr : Nat} {d : List (Nat × Nat)} (h : Hid (ST b0 w b gp cp gr 2 p2 d 1 ∧ d[0]! = (4611686018427387904, 0))) : Calls Try.prog 15 #[.pointer (some ⟨b, 0, none⟩)] w (EK w b) :=
  (t15 h.out.1).mono fun e w' ⟨g, cap, d1, he, h1, h2, h3⟩ => by
    obtain rfl := known_list (h2.out.trans (end_at h.out.2))
    obtain ⟨g', cap', hv, hk⟩ := row_kr (n := 1) h1.out rfl (by omega)
    simp only [Value.slice.injEq, Option.some.injEq, Addr.mk.injEq] at hv
    obtain ⟨⟨rfl, _⟩, _, rfl⟩ := hv
    exact ⟨g, cap, he, hk, h3⟩
theorem KR.far {b : Nat} {w1 w2 : World} {g n cap q : Nat} {d : List (Nat × Nat)} (h : KR b w1 g n cap d) (hb : But q w1 w2) (hne : g ≠ q) : KR b w2 g n cap d := ⟨h.1.far hb hne, h.2⟩
theorem fk_ne {b0 b1 b gp cp gr g n cap : Nat} {w w' : World} {P d P' d' D : List (Nat × Nat)} {k k' : Nat} {q : Prop} (h : Hid (ST b0 w b gp cp gr n P d k)) (_ : Hid (ST b1 w' b gp cp gr n P' d' k' ∧ q)) (hk : Hid (KR (newa2 w).heap.size w' g 1 cap D)) : g ≠ b := by
  have l1 : b < w.heap.size := World.block_lt_of_cell? w _ h.out.c0
  have l2 : (newa2 w).heap.size ≤ g := (World.ownsRow.lt hk.out.1 _ rfl).1
  simp at l2
  omega
set_option maxHeartbeats 4000000 in
theorem t6 (w : World) : Calls Try.prog 6 #[] w (TU w) := by
  have q1 : eqF (ab 4613937818241073152) (ab 4613937818241073152) = true := by decide +kernel
  have q2 : eqF (ab 0) (ab 0) = true := by decide +kernel
  have q3 : eqF (ab 4617315517961601024) (ab 4617315517961601024) = true := by decide +kernel
  have q4 : eqF (ab 4611686018427387904) (ab 4611686018427387904) = true := by decide +kernel
  have q5 : eqF (ab 4607182418800017408) (ab 4607182418800017408) = true := by decide +kernel
  go_enter Try.func6, Try.ntmps6
  go_wp2_with (first
    | (go_at_call 7; (with_reducible refine (w7a _).mono ?_); rintro e w1 ⟨g1, c1, rfl, k1, u1⟩)
    | (go_at_call 11; (with_reducible refine (w11a _).mono ?_); rintro e w2 ⟨g2, c2, rfl, k2, u2⟩)
    | (go_at_call 13; (with_reducible refine (w13a _).mono ?_); rintro e w3 ⟨b, gp, cp, gr, rfl, s3, u3⟩)
    | (go_at_call 14; (with_reducible refine (w14a s3 u3).mono ?_); rintro e w4 ⟨g4, c4, d4, rfl, k4, s4, u4⟩)
    | (go_at_call 15; (with_reducible refine (w15a s4).mono ?_); rintro e w5 ⟨g5, c5, rfl, k5, u5⟩
       have lb : (newp2 w2).heap.size ≤ b := s4.out.1.lo
       have U25 : Up (newp2 w2) w5 := u5.out.up u4.out lb
       have U2 : Up w2 w5 := (Up.alloc _ _).trans U25
       have a0 := (k1.out.up (u2.out.trans U2)).cell (i := 0) (by omega) rfl
       have a1 := (k1.out.up (u2.out.trans U2)).cell (i := 1) (by omega) rfl
       have a2 := (k1.out.up (u2.out.trans U2)).cell (i := 2) (by omega) rfl
       have b1 := (k2.out.up U2).cell (i := 1) (by omega) rfl
       have b2 := (k2.out.up U2).cell (i := 2) (by omega) rfl
       have hne : g4 ≠ b := fk_ne s3 s4 k4
       have x0 := (k4.out.far u5.out hne).cell (i := 0) (by omega) rfl
       have y0 := k5.out.cell (i := 0) (by omega) rfl
       have U : Hid (Up w w5) := (u1.out.trans u2.out).trans U2
       clear k1 k2 k4 k5 s3 s4 u1 u2 u3 u4 u5 lb U25 U2 hne))
  go_ret
  exact ⟨rfl, U⟩
end Go.Proofs.Ytfimolhndbfpgaa

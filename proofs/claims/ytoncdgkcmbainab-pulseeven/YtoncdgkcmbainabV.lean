/- What the document says of a few pulses. -/
import Derived.Test.YtoncdgkcmbainabT
import Derived.Test.YtoncdgkcmbainabU
namespace Go.Proofs.Ytoncdgkcmbainab
open Go.ChangeShapes Go.WideShapes Go.ChangeAt Go.RowKit Go.Fl Ieee
attribute [local go_sem] run_store_float run_store_complex call12 call18 run_neg fold_eq fold_ne fold_lt fold_gt abs_eq

def so (p : Nat × Nat) : Option Nat × Option Nat := (some p.1, some p.2)
theorem known_list {d L : List (Nat × Nat)} (h : d.map ab2 = L.map so) : d = L := by
  have hl : d.length = L.length := by simpa using congrArg List.length h
  refine List.ext_getElem hl fun i hi hi' => ?_
  have e := congrArg (fun l => l[i]?) h
  simp only [List.getElem?_map, List.getElem?_eq_getElem hi, List.getElem?_eq_getElem hi', Option.map_some, Option.some.injEq, ab2, so, Prod.mk.injEq] at e
  exact Prod.ext (of_ab e.1) (of_ab e.2)
/-- A row that is known, in a block of its own. -/
def KR (w w' : World) (g n cap : Nat) (d : List (Nat × Nat)) : Prop := CRow w.heap.size w' (.slice (some ⟨g, 0, none⟩) n cap) d ∧ d.length = n ∧ n ≤ cap
theorem KR.up {w w1 w2 : World} {g n cap : Nat} {d : List (Nat × Nat)} (h : KR w w1 g n cap d) (hu : Up w1 w2) : KR w w2 g n cap d := ⟨h.1.up hu, h.2⟩
theorem KR.cell {w w' : World} {g n cap : Nat} {d : List (Nat × Nat)} (h : KR w w' g n cap d) {i x y : Nat} (hi : i < n) (hd : d[i]! = (x, y)) : w'.cell? ⟨g, i, none⟩ = some (.complex .f64 x y) := by
  have := h.1.cell (i := i) (by rw [h.2.1]; exact hi)
  rw [hd] at this; exact this
def KL (w : World) (n : Nat) (d : List (Nat × Nat)) (c : Int) (e : Ending) (w' : World) : Prop := ∃ g cap, e = .returned (.tuple #[.slice (some ⟨g, 0, none⟩) n cap, .int .i64 c]) ∧ Hid (KR w w' g n cap d) ∧ Hid (Up w w')
theorem row_kr {w w' : World} {v : Value} {n : Nat} {d : List (Nat × Nat)} (h : CRow w.heap.size w' v d) (hn : d.length = n) (h0 : 0 < n) : ∃ g cap, v = .slice (some ⟨g, 0, none⟩) n cap ∧ KR w w' g n cap d := by
  subst hn
  rcases h.2 with ⟨rfl, h2⟩ | ⟨g, cap, cur, rfl, _, _, hc, _⟩
  · omega
  · exact ⟨g, cap, rfl, h, rfl, hc⟩
theorem PL.known {w w' : World} {L : List (Option Nat × Option Nat)} {c : Int} {e : Ending} (h : PL w L c e w') {d : List (Nat × Nat)} {n : Nat} {c' : Int} (hL : L = d.map so) (hn : d.length = n) (h0 : 0 < n) (hc : c = c') : KL w n d c' e w' := by
  obtain ⟨v, d', rfl, h1, h2, h3⟩ := h
  obtain rfl := known_list (h3.out.trans hL)
  obtain ⟨g, cap, rfl, hk⟩ := row_kr h1.out hn h0
  exact ⟨g, cap, by rw [hc], hk, h2⟩
theorem w16 (w : World) : Calls Try.prog 13 #[.int .i64 3] w (KL w 3 [(4607182418800017408, 0), (4607182418800017408, 0), (13830554455654793216, 0)] 0) := (t13 3 w).mono fun _ _ h => h.known (by decide +kernel) rfl (by omega) (by decide +kernel)
theorem w10 (w : World) : Calls Try.prog 5 #[.int .i64 4, .float .f64 4616189618054758400] w (KL w 4 [(4607182418800017408, 0), (13830554455654793216, 0), (4607182418800017408, 0), (13830554455654793216, 0)] 0) := (t5 4 4616189618054758400 w).mono fun _ _ h => h.known (by decide +kernel) rfl (by omega) (by decide +kernel)
/-- A window that is known. -/
def KW (w : World) (n : Nat) (d : List Nat) (e : Ending) (w' : World) : Prop := ∃ g, e = .returned (.slice (some ⟨g, 0, none⟩) n n) ∧ Hid (∀ i, i < n → w'.cell? ⟨g, i, none⟩ = some (.float .f64 d[i]!)) ∧ Hid (Up w w')
theorem w30 (w : World) : Calls Try.prog 11 #[.int .i8 1, .int .i64 4] w (KW w 4 [0, 4602678819172646912, 4607182418800017408, 4602678819172646912]) := by
  refine (t11 1 4 w (by omega) (by omega)).mono fun e w' ⟨g, d, he, h1, h2, h3⟩ => ⟨g, he, fun i hi => ?_, h2⟩
  have hd := h3.out.2 i hi
  rw [World.ownsRow.cellAt h1.out i (by omega), List.getElem?_map, List.getElem?_eq_getElem (by rw [h3.out.1]; exact hi), Option.map_some, ← getElem!_pos d i (by rw [h3.out.1]; exact hi)]
  have hk : ∀ i, i < 4 → weightF 1 4 i = some ([0, 4602678819172646912, 4607182418800017408, 4602678819172646912][i]!) := by decide +kernel
  rw [hk i hi] at hd
  rw [of_ab hd]
/-- A row of Own's that is known. -/
def KO (w : World) (n : Nat) (d : List (Nat × Nat)) (e : Ending) (w' : World) : Prop := ∃ g cap, e = .returned (.slice (some ⟨g, 0, none⟩) n cap) ∧ Hid (KR w w' g n cap d) ∧ Hid (Up w w')
theorem OL.known {w w' : World} {f : Nat → Nat × Nat} {n : Nat} {e : Ending} (h : OL w f n e w') {d : List (Nat × Nat)} {m : Nat} (hm : 2 * n - 1 = m) (hn : d.length = m) (h0 : 0 < m) (hd : ∀ j, j < m → ownF f n j = so d[j]!) : KO w m d e w' := by
  obtain ⟨v, d', rfl, h1, h2, h3⟩ := h
  have e : d' = d := by
    refine known_list (List.ext_getElem (by simp; rw [h3.out.1, hn, hm]) fun i hi hi' => ?_)
    have hi1 : i < d'.length := by simpa using hi
    have hi2 : i < m := by rw [← hm, ← h3.out.1]; exact hi1
    have a := h3.out.2 i (by rw [hm]; exact hi2)
    rw [hd i hi2, getElem!_pos d' i hi1, getElem!_pos d i (by rw [hn]; exact hi2)] at a
    simpa using a
  subst e
  obtain ⟨g, cap, rfl, hk⟩ := row_kr h1.out hn h0
  exact ⟨g, cap, rfl, hk, h2⟩
theorem rd_new (w : World) (t : TypeId) (d : List (Nat × Nat)) {cs : Array Value} (h : cs = (d.map ce).toArray) : RD (w.alloc (.cells cs t)) w.heap.size 0 d.length (fun i => d[i]!) := by
  subst h
  intro j hj
  rw [cell_of_row _ _ _ _ _ _ (heap_alloc_last _ _)]
  simp [getElem!_pos d j hj, List.getElem?_eq_getElem hj]
def bar3 : List (Nat × Nat) := [(4607182418800017408, 0), (4607182418800017408, 0), (13830554455654793216, 0)]
theorem w21 (w : World) : Calls Try.prog 14 #[.slice (some ⟨w.heap.size, 0, none⟩) 3 3] (w.alloc (.cells #[.complex .f64 4607182418800017408 0, .complex .f64 4607182418800017408 0, .complex .f64 13830554455654793216 0] 40)) (KO (w.alloc (.cells #[.complex .f64 4607182418800017408 0, .complex .f64 4607182418800017408 0, .complex .f64 13830554455654793216 0] 40)) 5 [(13830554455654793216, 9223372036854775808), (0, 0), (4613937818241073152, 0), (0, 0), (13830554455654793216, 0)]) :=
  (t14 w.heap.size 0 3 3 (fun i => bar3[i]!) _ (rd_new w 40 bar3 rfl) (by omega) (by omega) (by omega)).mono fun _ _ h => h.known rfl rfl (by omega) (by decide +kernel)

set_option maxHeartbeats 4000000 in
theorem t4 (w : World) : Calls Try.prog 4 #[] w (TU w) := by
  have q1 : eqF (ab 4607182418800017408) (ab 4607182418800017408) = true := by decide +kernel
  have q2 : eqF (ab 0) (ab 0) = true := by decide +kernel
  have q3 : eqF (ab 13830554455654793216) (ab 13830554455654793216) = true := by decide +kernel
  have q4 : eqF (ab 4602678819172646912) (ab 4602678819172646912) = true := by decide +kernel
  have q5 : eqF (ab 4613937818241073152) (ab 4613937818241073152) = true := by decide +kernel
  have q6 : eqF (ab 9223372036854775808) (ab 0) = true := by decide +kernel
  go_enter Try.func4, Try.ntmps4
  go_wp2_with (first
    | (go_at_call 13; refine (w16 _).mono ?_; rintro e w1 ⟨g1, c1, rfl, k1, u1⟩)
    | (go_at_call 5; refine (w10 _).mono ?_; rintro e w2 ⟨g2, c2, rfl, k2, u2⟩)
    | (go_at_call 11; refine (w30 _).mono ?_; rintro e w3 ⟨g3, rfl, k3, u3⟩)
    | (go_at_call 14; refine (w21 _).mono ?_; rintro e w4 ⟨g4, c4, rfl, k4, u4⟩
       have U34 : Up w3 w4 := (Up.alloc _ _).trans u4.out
       have U24 : Up w2 w4 := u3.out.trans U34
       have U14 : Up w1 w4 := u2.out.trans U24
       have b0 := (k1.out.up U14).cell (i := 0) (by omega) rfl
       have b2 := (k1.out.up U14).cell (i := 2) (by omega) rfl
       have d0 := (k2.out.up U24).cell (i := 0) (by omega) rfl
       have d1 := (k2.out.up U24).cell (i := 1) (by omega) rfl
       have d2 := (k2.out.up U24).cell (i := 2) (by omega) rfl
       have f0 : w4.cell? ⟨g3, 0, none⟩ = some (.float .f64 0) := cell_up (k3.out 0 (by omega)) U34
       have f1 : w4.cell? ⟨g3, 1, none⟩ = some (.float .f64 4602678819172646912) := cell_up (k3.out 1 (by omega)) U34
       have f2 : w4.cell? ⟨g3, 2, none⟩ = some (.float .f64 4607182418800017408) := cell_up (k3.out 2 (by omega)) U34
       have o2 := k4.out.cell (i := 2) (by omega) rfl
       have o0 := k4.out.cell (i := 0) (by omega) rfl
       have o1 := k4.out.cell (i := 1) (by omega) rfl
       have U : Hid (Up w w4) := u1.out.trans U14
       clear k1 k2 k3 k4 u1 u2 u3 u4 U34 U24 U14))
  go_ret
  exact ⟨rfl, U⟩
end Go.Proofs.Ytoncdgkcmbainab

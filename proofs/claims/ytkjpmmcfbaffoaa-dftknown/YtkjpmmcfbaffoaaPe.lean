/- Rows that are known; what the statement asks first. -/
import Derived.Test.YtkjpmmcfbaffoaaPd
namespace Go.Proofs.Ytkjpmmcfbaffoaa
open Go.ChangeShapes Go.WideShapes Go.ChangeAt Go.RowKit Go.Fl Ieee
attribute [local go_sem] run_store_float run_store_complex call35 call34 run_neg fold_eq fold_ne fold_lt fold_gt abs_eq

def so (p : Nat × Nat) : Option Nat × Option Nat := (some p.1, some p.2)
theorem known_list {d L : List (Nat × Nat)} (h : d.map ab2 = L.map so) : d = L := by
  have hl : d.length = L.length := by simpa using congrArg List.length h
  refine List.ext_getElem hl fun i hi hi' => ?_
  have e := congrArg (fun l => l[i]?) h
  simp only [List.getElem?_map, List.getElem?_eq_getElem hi, List.getElem?_eq_getElem hi', Option.map_some, Option.some.injEq, ab2, so, Prod.mk.injEq] at e
  exact Prod.ext (of_ab e.1) (of_ab e.2)
/-- A row that is known, in a block of its own. -/
def KR (b : Nat) (w' : World) (g n cap : Nat) (d : List (Nat × Nat)) : Prop := CRow b w' (.slice (some ⟨g, 0, none⟩) n cap) d ∧ d.length = n ∧ n ≤ cap
theorem KR.up {b : Nat} {w1 w2 : World} {g n cap : Nat} {d : List (Nat × Nat)} (h : KR b w1 g n cap d) (hu : Up w1 w2) : KR b w2 g n cap d := ⟨h.1.up hu, h.2⟩
theorem KR.cell {b : Nat} {w' : World} {g n cap : Nat} {d : List (Nat × Nat)} (h : KR b w' g n cap d) {i x y : Nat} (hi : i < n) (hd : d[i]! = (x, y)) : w'.cell? ⟨g, i, none⟩ = some (.complex .f64 x y) := by
  have := h.1.cell (i := i) (by rw [h.2.1]; exact hi)
  rw [hd] at this; exact this
theorem KR.rd {b : Nat} {w' : World} {g n cap : Nat} {d : List (Nat × Nat)} (h : KR b w' g n cap d) : RD w' g 0 n (fun i => d[i]!) := fun j hj => by rw [Nat.zero_add]; exact h.1.cell (by rw [h.2.1]; exact hj)
theorem KR.lt {b : Nat} {w' : World} {g n cap : Nat} {d : List (Nat × Nat)} (h : KR b w' g n cap d) : g < w'.heap.size := (World.ownsRow.lt h.1 _ rfl).2
def KL (b : Nat) (w : World) (n : Nat) (d : List (Nat × Nat)) (c : Int) (e : Ending) (w' : World) : Prop := ∃ g cap, e = .returned (.tuple #[.slice (some ⟨g, 0, none⟩) n cap, .int .i64 c]) ∧ Hid (KR b w' g n cap d) ∧ Hid (Up w w')
theorem row_kr {b : Nat} {w' : World} {v : Value} {n : Nat} {d : List (Nat × Nat)} (h : CRow b w' v d) (hn : d.length = n) (h0 : 0 < n) : ∃ g cap, v = .slice (some ⟨g, 0, none⟩) n cap ∧ KR b w' g n cap d := by
  subst hn
  rcases h.2 with ⟨rfl, h2⟩ | ⟨g, cap, cur, rfl, _, _, hc, _⟩
  · omega
  · exact ⟨g, cap, rfl, h, rfl, hc⟩
theorem PL.known {w0 w w' : World} {L : List (Option Nat × Option Nat)} {c : Int} {e : Ending} (h : PL w L c e w') (hu : Up w0 w) {d : List (Nat × Nat)} {n : Nat} (hL : L = d.map so) (hn : d.length = n) (h0 : 0 < n) : KL w.heap.size w0 n d c e w' := by
  obtain ⟨v, d', rfl, h1, h2, h3⟩ := h
  obtain rfl := known_list (h3.out.trans hL)
  obtain ⟨g, cap, rfl, hk⟩ := row_kr h1.out hn h0
  exact ⟨g, cap, rfl, hk, hu.trans h2.out⟩
theorem rd_new (w : World) (t : TypeId) (d : List (Nat × Nat)) {cs : Array Value} {n : Nat} (hn : d.length = n) (h : cs = (d.map ce).toArray) : RD (w.alloc (.cells cs t)) w.heap.size 0 n (fun i => d[i]!) := by
  subst h
  subst hn
  intro j hj
  rw [cell_of_row _ _ _ _ _ _ (heap_alloc_last _ _)]
  simp [getElem!_pos d j hj, List.getElem?_eq_getElem hj]
theorem lt_new (w : World) (o : Obj) : w.heap.size < (w.alloc o).heap.size := by simp
def l4 : List (Nat × Nat) := [(4607182418800017408, 0), (4611686018427387904, 0), (4613937818241073152, 0), (4616189618054758400, 0)]
def m4 : List (Nat × Nat) := [(4621819117588971520, 0), (13835058055282163712, 4611686018427387904), (13835058055282163712, 0), (13835058055282163712, 13835058055282163712)]
abbrev new4 (w : World) : World := w.alloc (.cells #[.complex .f64 4607182418800017408 0, .complex .f64 4611686018427387904 0, .complex .f64 4613937818241073152 0, .complex .f64 4616189618054758400 0] 26)
abbrev newm (w : World) : World := w.alloc (.cells #[.complex .f64 4621819117588971520 0, .complex .f64 13835058055282163712 4611686018427387904, .complex .f64 13835058055282163712 0, .complex .f64 13835058055282163712 13835058055282163712] 26)
theorem fast_l4 : fastL false 2 (fun i => ab2 l4[i]!) = m4.map so := by decide +kernel
theorem fast_m4 : fastL true 2 (fun i => ab2 m4[i]!) = l4.map so := by decide +kernel
theorem slow_l4 : slowL false 4 (fun i => ab2 l4[i]!) = m4.map so := by decide +kernel
theorem w4a (w : World) : Calls Try.prog 4 #[.slice (some ⟨w.heap.size, 0, none⟩) 4 4, .bool false] (new4 w) (KL (new4 w).heap.size w 4 m4 0) :=
  (t4 2 w.heap.size 0 4 4 false (fun i => l4[i]!) (new4 w) rfl (by omega) (by omega) (lt_new _ _) (rd_new w 26 l4 rfl rfl)).mono fun _ _ h => h.known (Up.alloc _ _) fast_l4 rfl (by omega)
theorem w5a (w : World) : Calls Try.prog 5 #[.slice (some ⟨w.heap.size, 0, none⟩) 4 4, .bool false] (new4 w) (KL (new4 w).heap.size w 4 m4 0) :=
  (t5 w.heap.size 0 4 4 false (fun i => l4[i]!) (new4 w) (by omega) (lt_new _ _) (rd_new w 26 l4 rfl rfl)).mono fun _ _ h => h.known (Up.alloc _ _) slow_l4 rfl (by omega)
theorem w4b (w : World) : Calls Try.prog 4 #[.slice (some ⟨w.heap.size, 0, none⟩) 4 4, .bool true] (newm w) (KL (newm w).heap.size w 4 l4 0) :=
  (t4 2 w.heap.size 0 4 4 true (fun i => m4[i]!) (newm w) rfl (by omega) (by omega) (lt_new _ _) (rd_new w 26 m4 rfl rfl)).mono fun _ _ h => h.known (Up.alloc _ _) fast_m4 rfl (by omega)
theorem w4c {b g cap : Nat} {w : World} (h : Hid (KR b w g 4 cap m4)) : Calls Try.prog 4 #[.slice (some ⟨g, 0, none⟩) 4 cap, .bool true] w (KL w.heap.size w 4 l4 0) :=
  (t4 2 g 0 4 cap true (fun i => m4[i]!) w rfl (by omega) h.out.2.2 h.out.lt h.out.rd).mono fun _ _ h => h.known (Up.refl _) fast_m4 rfl (by omega)
end Go.Proofs.Ytkjpmmcfbaffoaa

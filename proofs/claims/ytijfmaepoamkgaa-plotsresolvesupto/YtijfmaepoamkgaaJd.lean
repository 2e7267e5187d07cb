/- Pairs in memory: a remainder and its modulus; one more modulus (and). -/
import Derived.Test.YtijfmaepoamkgaaJc
import Derived.Test.YtijfmaepoamkgaaEf
import Derived.Laws.ResultCell
import Derived.Test.YtijfmaepoamkgaaRg
import Derived.Laws.CopyOwn
namespace Go.Proofs.Ytijfmaepoamkgaa.Fo
open Go.ChangeShapes Go.WideShapes Go.ChangeAt Go.RowKit

/-- A pair in memory. -/
def R2 (w : World) (g : Nat) (r m : Int) : Prop := w.heap[g]? = some (.cells #[.int .i64 r, .int .i64 m] 101)
theorem R2.cells {w : World} {g : Nat} {r m : Int} (h : R2 w g r m) : w.cell? ⟨g, 0, none⟩ = some (.int .i64 r) ∧ w.cell? ⟨g, 1, none⟩ = some (.int .i64 m) := by
  unfold R2 at h
  unfold World.cell?
  simp [h]
theorem R2.frz {w : World} {g : Nat} {r m : Int} (h : R2 w g r m) (i : Nat) : w.frozen? ⟨g, i, none⟩ = false := by
  unfold R2 at h
  unfold World.frozen?
  simp [h]
theorem R2.set {w : World} {g : Nat} {r m : Int} (h : R2 w g r m) (t : Int) : R2 (w.setCell ⟨g, 0, none⟩ (.int .i64 t)) g t m ∧ R2 (w.setCell ⟨g, 1, none⟩ (.int .i64 t)) g r t := by
  unfold R2 at *
  unfold World.setCell
  simp only [Array.getElem?_modify, h]
  simp
theorem R2.lt {w : World} {g : Nat} {r m : Int} (h : R2 w g r m) : g < w.heap.size := by
  unfold R2 at h
  exact (Array.getElem?_eq_some_iff.1 h).1
theorem R2.up {w w' : World} {g : Nat} {r m : Int} (h : R2 w g r m) (hu : Up w w') : R2 w' g r m := by
  have := hu.block g h.lt
  unfold R2 at *
  rw [this]; exact h
theorem R2.new (w : World) (r m : Int) : R2 (w.alloc (.cells #[.int .i64 r, .int .i64 m] 101)) w.heap.size r m := heap_alloc_last _ _
theorem size45 : (Try.prog.info? 101).map (·.size) = some 2 := by kernel_rfl
theorem results_pair {fn : Func} {p u : Tmp} (h : fn.results = #[.cell p 101, .tmp u]) (tmps : Array Value) (w : World) (g : Nat) (r m : Int) (hp : tmps.getD p undef = .pointer (some ⟨g, 0, none⟩)) (hg : R2 w g r m) :
    (results fn tmps).run Try.prog w = .ok (.tuple #[.agg #[.int .i64 r, .int .i64 m], tmps.getD u undef]) w := by
  have hp' : tmps[p]?.getD undef = .pointer (some ⟨g, 0, none⟩) := by simpa using hp
  have hl := run_loadVar_row w g 101 101 #[.int .i64 r, .int .i64 m] (0, 0) _ hg Try.underlying101 rfl size45
  simp [results, h, hp', asAddr, hl]
theorem t65 (r m : Int) (hm : 1 ≤ m) (hm2 : m ≤ 1099511627776) (w : World) : Calls Try.prog 65 #[.int .i64 r, .int .i64 m] w fun e w' => e = .returned (.tuple #[.agg #[.int .i64 (r % m), .int .i64 m], .int .i64 0]) ∧ Hid (Up w w') := by
  go_enter Try.func65, Try.ntmps65
  go_wp2_with (go_at_call 75; refine (t75 r m (by omega) _).mono ?_; rintro e w' ⟨rfl, rfl⟩)
  exact bodyPost_ret (results_pair Try.results65 _ _ w.heap.size (r % m) m rfl (R2.new _ _ _)) rfl ⟨rfl, Up.alloc _ _⟩
theorem t65e (r m : Int) (h : m < 1 ∨ 1099511627776 < m) (w : World) : Calls Try.prog 65 #[.int .i64 r, .int .i64 m] w fun e w' => e = .returned (.tuple #[.agg #[.int .i64 0, .int .i64 0], .int .i64 2]) ∧ Hid (Up w w') := by
  go_enter Try.func65, Try.ntmps65
  go_wp2_with fail
  all_goals first
    | exact bodyPost_ret (results_pair Try.results65 _ _ w.heap.size 0 0 rfl (R2.new _ _ _)) rfl ⟨rfl, Up.alloc _ _⟩
    | (exfalso; simp_all; omega)
theorem far_min' {x r m : Int} (hm : 1 ≤ m) : (m - (x - r) % m < (x - r) % m → m - (x - r) % m = far x r m) ∧ (¬ m - (x - r) % m < (x - r) % m → (x - r) % m = far x r m) := by
  have := far_min (x := x) (r := r) hm
  constructor <;> intro h <;> omega
/-- How many on: 0, or to the next one that is near. -/
def waitF (r m x off : Int) : Int := if far x r m ≤ off then 0 else m - (x - r) % m - off
theorem t66 (r m x off : Int) (hm : 1 ≤ m) (hm2 : m ≤ 1099511627776) (hr : 0 ≤ r ∧ r < m) (hx : -4611686018427387904 ≤ x ∧ x ≤ 4611686018427387904) (ho : 0 ≤ off ∧ off ≤ 9223372036854775807) (w : World) : Calls Try.prog 66 #[.agg #[.int .i64 r, .int .i64 m], .int .i64 x, .int .i64 off] w fun e w' => e = .returned (.int .i64 (waitF r m x off)) ∧ Hid (Up w w') := by
  have r0 := Int.emod_nonneg (x - r) (show m ≠ 0 by omega)
  have r1 := Int.emod_lt_of_pos (x - r) (show 0 < m by omega)
  obtain ⟨f1, f2⟩ := far_min' (x := x) (r := r) hm
  have HF : Hid ((m - (x - r) % m < (x - r) % m → m - (x - r) % m = far x r m) ∧ (¬ m - (x - r) % m < (x - r) % m → (x - r) % m = far x r m)) := ⟨f1, f2⟩
  clear f1 f2
  go_enter Try.func66, Try.ntmps66
  go_wp2_with (go_at_call 75; refine (t75 (x - r) m (by omega) _).mono ?_; rintro e w' ⟨rfl, rfl⟩)
  all_goals (go_ret; refine ⟨?_, Up.alloc _ _⟩)
  all_goals
    generalize hp : (x - r) % m = p at *
    by_cases hc : m - p < p
    · have e := HF.out.1 hc
      (try simp only [if_pos hc] at *)
      first
        | (rw [waitF, ← e, if_pos (by omega)]; rfl)
        | (rw [waitF, ← e, if_neg (by omega), hp]; rfl)
        | (exfalso; omega)
    · have e := HF.out.2 (by omega)
      (try simp only [if_neg hc] at *)
      first
        | (rw [waitF, ← e, if_pos (by omega)]; rfl)
        | (rw [waitF, ← e, if_neg (by omega), hp]; rfl)
        | (exfalso; omega)
theorem mul_pos1 {a b : Int} (ha : 1 ≤ a) (hb : 1 ≤ b) : 1 ≤ a * b := by
  have := Int.mul_le_mul_of_nonneg_left hb (show 0 ≤ a by omega)
  omega
/-- What 'and' leans on: the divisor, what is apart, the part, the next one. -/
structure An (x a r m g b pt : Int) : Prop where
  g1 : 1 ≤ g
  gm : g ≤ m
  part : m / g = pt
  pt1 : 1 ≤ pt
  pt2 : pt ≤ m
  bb : -1099511627776 ≤ b ∧ b ≤ 1099511627776
  eg : (eucl a 1 0 m 0 1).1 = g
  zero : ((r - x) % m).tmod g = 0 ↔ (r - x) % g = 0
  next : (r - x) % g = 0 → a * pt ≤ 4611686018427387904 → x + ((r - x) % m / g * (b % pt) % pt) * a = (stepF x a r m).1 ∧ 0 ≤ ((r - x) % m / g * (b % pt) % pt) * a ∧ x + ((r - x) % m / g * (b % pt) % pt) * a ≤ 4611686018427387904
theorem An.of {x a r m : Int} (ha : 1 ≤ a) (hx : 0 ≤ x ∧ x < a) (hm : 1 ≤ m) (hm2 : m ≤ 1099511627776) : An x a r m (eucl (a % m) 1 0 m 0 1).1 (eucl (a % m) 1 0 m 0 1).2.1 (m / (eucl (a % m) 1 0 m 0 1).1) := by
  have am0 := Int.emod_nonneg a (show m ≠ 0 by omega)
  have am1 := Int.emod_lt_of_pos a (show 0 < m by omega)
  have h1 := eucl_told (A := a) (B := m) (by omega) (by omega)
  have h2 := eucl_told (A := a % m) (B := m) am0 (by omega)
  have hs := gc_mod h1 h2
  have hst : stepF x a r m = stepF x a r m := rfl
  unfold stepF at hst
  obtain ⟨g1, e1, k1, e2, k2⟩ := h1.parts ha hm
  generalize eucl (a % m) 1 0 m 0 1 = F at *
  have hb0 := h2.bx
  have hgm : F.1 ≤ m := by
    rw [hs]
    have := Int.mul_le_mul_of_nonneg_right k1 (show 0 ≤ (eucl a 1 0 m 0 1).1 by omega)
    omega
  have hpt2 : m / F.1 ≤ m := Int.ediv_le_self _ (by omega)
  have r0 := Int.emod_nonneg (r - x) (show m ≠ 0 by omega)
  have r1 := Int.emod_lt_of_pos (r - x) (show 0 < m by omega)
  have er := Int.mul_ediv_add_emod (r - x) m
  have hgd : F.1 ∣ m := ⟨m / F.1, by rw [Int.mul_comm, hs]; exact e1.symm⟩
  have hz : (r - x) % m % F.1 = (r - x) % F.1 := Int.emod_emod_of_dvd _ hgd
  refine ⟨by omega, hgm, rfl, by rw [hs]; exact k1, hpt2, by omega, hs.symm, ?_, ?_⟩
  · rw [Int.tmod_eq_emod_of_nonneg r0, hz]
  · intro hd hall
    have hc : F.1 ∣ (r - x) % m := Int.dvd_of_emod_eq_zero (by rw [hz]; exact hd)
    have hcc : (r - x) % m / F.1 * F.1 = (r - x) % m := Int.ediv_mul_cancel hc
    have hbd : m ∣ F.2.1 * a - F.1 := by
      have hmk := h2.make
      have ea := Int.mul_ediv_add_emod a m
      exact ⟨F.2.1 * (a / m) - F.2.2, by generalize a / m = q at *; generalize a % m = z at *; subst ea; grind⟩
    have hbd2 : m ∣ F.2.1 * a - (eucl a 1 0 m 0 1).1 := by rw [← hs]; exact hbd
    have st := step_any (rr := r) (c := (r - x) % m / F.1) (b := F.2.1) (t := (r - x) % m / F.1 * (F.2.1 % (m / F.1)) % (m / F.1)) h1 ha hm hx ⟨-((r - x) / m), by rw [← hs, hcc]; grind⟩ hbd2 (by rw [← hs, Int.mul_emod, Int.emod_emod, ← Int.mul_emod])
    rw [← hs] at st
    have hsf : (stepF x a r m).1 = nextX a m F.1 (eucl a 1 0 m 0 1).2.1 x r := by
      unfold stepF
      rw [← hs, if_neg (by omega), if_neg (by omega)]
    rw [hsf]
    refine ⟨st.1, Int.mul_nonneg st.2.1 (by omega), ?_⟩
    generalize (r - x) % m / F.1 * (F.2.1 % (m / F.1)) % (m / F.1) = t at *
    have := Int.mul_le_mul_of_nonneg_right (show t + 1 ≤ m / F.1 by omega) (show 0 ≤ a by omega)
    grind
/-- A pair laid into a pair. -/
def set2 (w : World) (g : Nat) (r m : Int) : World := w.setCells g 0 [.int .i64 r, .int .i64 m]
theorem set2_is (w : World) (g : Nat) (r m : Int) : set2 w g r m = (w.setCell ⟨g, 0, none⟩ (.int .i64 r)).setCell ⟨g, 1, none⟩ (.int .i64 m) := rfl
theorem R2.put {w : World} {g : Nat} {a b : Int} (h : R2 w g a b) (r m : Int) : R2 (set2 w g r m) g r m := by
  rw [set2_is]
  exact ((h.set r).1.set m).2
theorem R2.offs {w : World} {g g' : Nat} {a b : Int} (h : R2 w g a b) (hn : g ≠ g') (r m : Int) : R2 (set2 w g' r m) g a b := by
  rw [set2_is]
  unfold R2 at *
  rw [Below.heap_setCell _ _ _ _ hn, Below.heap_setCell _ _ _ _ hn]; exact h
theorem Up.set2 {w w' : World} {g : Nat} (h : Up w w') (hg : w.heap.size ≤ g) (r m : Int) : Up w (set2 w' g r m) := by
  rw [set2_is]
  exact Below.setCell (Below.setCell h hg _) hg _
theorem R2.there {w : World} {g : Nat} {a b : Int} (h : R2 w g a b) : w.there g 0 2 := by
  intro j hj
  obtain ⟨c0, c1⟩ := h.cells
  refine ⟨?_, by rw [Nat.zero_add]; exact h.frz j⟩
  rcases (show j = 0 ∨ j = 1 by omega) with rfl | rfl
  · rw [Nat.zero_add, c0]; rfl
  · rw [Nat.zero_add, c1]; rfl
theorem wpList_store2 {ops : Array Oper} {rest : List Oper} {op : Oper} {a : Act} {w : World} {Q : Exit → Act → World → Prop} {g : Nat} {x y r m : Int} (h : R2 w g x y) (hgd : op.guard = none) (p q : Operand) (ho : op.op = .store 101 p q)
    (hx : a.eval p = .pointer (some ⟨g, 0, none⟩)) (hy : a.eval q = .agg #[.int .i64 r, .int .i64 m])
    (hk : wpList Try.prog ops Q rest (a.put op.dst undef) (set2 w g r m)) : wpList Try.prog ops Q (op :: rest) a w :=
  wpList_store_mid hgd 101 p q ho g 0 _ hx hy h.there size45 (by simp [Value.oneCell']) hk
/-- The two pairs, boxed, and the answer's. -/
def K2 (W : World) (g g2 g3 : Nat) (w : World) (x a r m : Int) : Prop := Up W w ∧ R2 w g x a ∧ R2 w g2 r m ∧ R2 w g3 0 0 ∧ W.heap.size ≤ g3
theorem K2.up {W : World} {g g2 g3 : Nat} {w w' : World} {x a r m : Int} (h : K2 W g g2 g3 w x a r m) (hu : Up w w') : K2 W g g2 g3 w' x a r m := ⟨h.1.trans hu, h.2.1.up hu, h.2.2.1.up hu, h.2.2.2.1.up hu, h.2.2.2.2⟩
theorem K2.cells {W : World} {g g2 g3 : Nat} {w : World} {x a r m : Int} (h : K2 W g g2 g3 w x a r m) : w.cell? ⟨g, 0, none⟩ = some (.int .i64 x) ∧ w.cell? ⟨g, 1, none⟩ = some (.int .i64 a) ∧ w.cell? ⟨g2, 0, none⟩ = some (.int .i64 r) ∧ w.cell? ⟨g2, 1, none⟩ = some (.int .i64 m) :=
  ⟨h.2.1.cells.1, h.2.1.cells.2, h.2.2.1.cells.1, h.2.2.1.cells.2⟩
theorem keep4 {W : World} {g g2 g3 : Nat} {w w' : World} {x a r m : Int} (h : Hid (K2 W g g2 g3 w x a r m) ∧ w.cell? ⟨g, 0, none⟩ = some (.int .i64 x) ∧ w.cell? ⟨g, 1, none⟩ = some (.int .i64 a) ∧ w.cell? ⟨g2, 0, none⟩ = some (.int .i64 r) ∧ w.cell? ⟨g2, 1, none⟩ = some (.int .i64 m)) (hu : Up w w') :
    Hid (K2 W g g2 g3 w' x a r m) ∧ w'.cell? ⟨g, 0, none⟩ = some (.int .i64 x) ∧ w'.cell? ⟨g, 1, none⟩ = some (.int .i64 a) ∧ w'.cell? ⟨g2, 0, none⟩ = some (.int .i64 r) ∧ w'.cell? ⟨g2, 1, none⟩ = some (.int .i64 m) := by
  have h' : Hid (K2 W g g2 g3 w' x a r m) := h.1.out.up hu
  exact ⟨h', h'.out.cells⟩
theorem K2.new (w : World) (x a r m : Int) : K2 w w.heap.size (w.heap.size + 1) (w.heap.size + 1 + 1) (((w.alloc (.cells #[.int .i64 x, .int .i64 a] 101)).alloc (.cells #[.int .i64 r, .int .i64 m] 101)).alloc (.cells #[.int .i64 0, .int .i64 0] 101)) x a r m := by
  refine ⟨((Up.alloc _ _).trans (Up.alloc _ _)).trans (Up.alloc _ _), ((R2.new w x a).up (Up.alloc _ _)).up (Up.alloc _ _), ?_, ?_, by omega⟩
  · have := R2.new (w.alloc (.cells #[.int .i64 x, .int .i64 a] 101)) r m
    simp at this
    exact this.up (Up.alloc _ _)
  · have := R2.new ((w.alloc (.cells #[.int .i64 x, .int .i64 a] 101)).alloc (.cells #[.int .i64 r, .int .i64 m] 101)) 0 0
    simpa using this
end Go.Proofs.Ytijfmaepoamkgaa.Fo
/- Join. -/
namespace Go.Proofs.Ytijfmaepoamkgaa.Fo
open Go.ChangeShapes Go.WideShapes Go.ChangeAt Go.RowKit

theorem cell_up {w w' : World} {b o : Nat} {v : Value} (h : w.cell? ⟨b, o, none⟩ = some v) (hu : Up w w') : w'.cell? ⟨b, o, none⟩ = some v := by
  rw [Below.cell hu (World.block_lt_of_cell? w _ h)]; exact h
/-- The cells of a slice hold these whole numbers. -/
def IR (w : World) (p : Option Addr) (n : Nat) (f : Nat → Int) : Prop := ∀ i, i < n → ∃ blk off, p = some ⟨blk, off, none⟩ ∧ w.cell? ⟨blk, off + i, none⟩ = some (.int .i64 (f i))
theorem IR.up {w w' : World} {p : Option Addr} {n : Nat} {f : Nat → Int} (h : IR w p n f) (hu : Up w w') : IR w' p n f := by
  intro i hi
  obtain ⟨blk, off, hp, hc⟩ := h i hi
  exact ⟨blk, off, hp, cell_up hc hu⟩
theorem join_ok {r m : Nat → Int} {i : Nat} (h : (joinF r m i).2.2 = 0) : 1 ≤ (joinF r m i).2.1 ∧ (joinF r m i).2.1 ≤ 4611686018427387904 ∧ 0 ≤ (joinF r m i).1 ∧ (joinF r m i).1 < (joinF r m i).2.1 := by
  have e : joinF r m i = ((joinF r m i).1, (joinF r m i).2.1, 0) := by rw [← h]
  obtain ⟨hj, hb⟩ := join_inv r m i _ _ e
  exact ⟨hj.one, hb, hj.lo, hj.hi⟩
/-- What Join answers. -/
def joinT (r m : Nat → Int) (n1 n2 : Nat) : Int × Int × Int := if min n1 n2 ≤ 8 then joinF r m (min n1 n2) else (0, 0, 3)
theorem joinF_end (r m : Nat → Int) {i n : Nat} (h : i ≤ n) (hc : (joinF r m i).2.2 ≠ 0) : joinF r m n = joinF r m i := by
  have := joinF_over r m i hc (n - i)
  rwa [show i + (n - i) = n by omega] at this
def J2 (w : World) (g : Nat) (wr : World) (x a : Int) : Prop := Up w wr ∧ R2 wr g x a ∧ w.heap.size ≤ g
theorem J2.up {w : World} {g : Nat} {wr w' : World} {x a : Int} (h : J2 w g wr x a) (hu : Up wr w') : J2 w g w' x a := ⟨h.1.trans hu, h.2.1.up hu, h.2.2⟩
theorem keepJ {w : World} {g : Nat} {wr w' : World} {x a : Int} {b1 o1 b2 o2 : Nat} {v1 v2 : Value} (h : Hid (J2 w g wr x a) ∧ wr.cell? ⟨b1, o1, none⟩ = some v1 ∧ wr.cell? ⟨b2, o2, none⟩ = some v2) (hu : Up wr w') : Hid (J2 w g w' x a) ∧ w'.cell? ⟨b1, o1, none⟩ = some v1 ∧ w'.cell? ⟨b2, o2, none⟩ = some v2 :=
  ⟨h.1.out.up hu, cell_up h.2.1 hu, cell_up h.2.2 hu⟩
theorem new_after {w w' : World} (h : Up ((w.alloc (.cells #[.int .i64 0, .int .i64 0] 101)).drew) w') : (w'.cell? ⟨w.heap.size, 0, none⟩ = some (.int .i64 0) ∧ w'.cell? ⟨w.heap.size, 1, none⟩ = some (.int .i64 0)) ∧ w'.frozen? ⟨w.heap.size, 0, none⟩ = false ∧ w'.frozen? ⟨w.heap.size, 1, none⟩ = false := by
  have h1 : R2 w' w.heap.size 0 0 := ((R2.new w 0 0).up (Up.drew _)).up h
  exact ⟨h1.cells, h1.frz 0, h1.frz 1⟩
theorem t65n (r m : Int) (hm : 1 ≤ m) (hm2 : m ≤ 1099511627776) (w : World) : Calls Try.prog 65 #[.int .i64 r, .int .i64 m] (w.alloc (.cells #[.int .i64 0, .int .i64 0] 101)).drew fun e w' => e = .returned (.tuple #[.agg #[.int .i64 (r % m), .int .i64 m], .int .i64 0]) ∧ Hid (Up ((w.alloc (.cells #[.int .i64 0, .int .i64 0] 101)).drew) w') ∧ (w'.cell? ⟨w.heap.size, 0, none⟩ = some (.int .i64 0) ∧ w'.cell? ⟨w.heap.size, 1, none⟩ = some (.int .i64 0)) ∧ w'.frozen? ⟨w.heap.size, 0, none⟩ = false ∧ w'.frozen? ⟨w.heap.size, 1, none⟩ = false :=
  (t65 r m hm hm2 _).mono fun _ _ h => ⟨h.1, h.2, new_after h.2.out⟩
theorem t65en (r m : Int) (hm : m < 1 ∨ 1099511627776 < m) (w : World) : Calls Try.prog 65 #[.int .i64 r, .int .i64 m] (w.alloc (.cells #[.int .i64 0, .int .i64 0] 101)).drew fun e w' => e = .returned (.tuple #[.agg #[.int .i64 0, .int .i64 0], .int .i64 2]) ∧ Hid (Up ((w.alloc (.cells #[.int .i64 0, .int .i64 0] 101)).drew) w') ∧ (w'.cell? ⟨w.heap.size, 0, none⟩ = some (.int .i64 0) ∧ w'.cell? ⟨w.heap.size, 1, none⟩ = some (.int .i64 0)) ∧ w'.frozen? ⟨w.heap.size, 0, none⟩ = false ∧ w'.frozen? ⟨w.heap.size, 1, none⟩ = false :=
  (t65e r m hm _).mono fun _ _ h => ⟨h.1, h.2, new_after h.2.out⟩
theorem keepJ_st {w : World} {g : Nat} {wr w4 : World} {x a : Int} {b1 o1 b2 o2 : Nat} {v1 v2 u1 u2 : Value} (h0 : Hid (J2 w g wr x a) ∧ wr.cell? ⟨b1, o1, none⟩ = some v1 ∧ wr.cell? ⟨b2, o2, none⟩ = some v2) (h : Hid (J2 w g w4 x a) ∧ w4.cell? ⟨b1, o1, none⟩ = some v1 ∧ w4.cell? ⟨b2, o2, none⟩ = some v2) :
    Hid (J2 w g ((w4.setCell ⟨wr.heap.size, 0, none⟩ u1).setCell ⟨wr.heap.size, 1, none⟩ u2) x a) ∧ ((w4.setCell ⟨wr.heap.size, 0, none⟩ u1).setCell ⟨wr.heap.size, 1, none⟩ u2).cell? ⟨b1, o1, none⟩ = some v1 ∧ ((w4.setCell ⟨wr.heap.size, 0, none⟩ u1).setCell ⟨wr.heap.size, 1, none⟩ u2).cell? ⟨b2, o2, none⟩ = some v2 := by
  obtain ⟨k1, k2, k3⟩ := h0
  obtain ⟨j1, j2, j3⟩ := h
  have l1 := World.block_lt_of_cell? wr _ k2
  have l2 := World.block_lt_of_cell? wr _ k3
  have l3 := k1.out.2.1.lt
  simp only at l1 l2
  have lw := k1.out.1.size
  refine ⟨⟨Below.setCell (Below.setCell j1.out.1 lw _) lw _, ?_, j1.out.2.2⟩, ?_, ?_⟩
  · have := j1.out.2.1
    unfold R2 at *
    rw [Below.heap_setCell _ _ _ _ (by simp only; omega), Below.heap_setCell _ _ _ _ (by simp only; omega)]; exact this
  · rw [World.cell?_setCell_far _ _ _ _ (by simp only; omega), World.cell?_setCell_far _ _ _ _ (by simp only; omega)]; exact j2
  · rw [World.cell?_setCell_far _ _ _ _ (by simp only; omega), World.cell?_setCell_far _ _ _ _ (by simp only; omega)]; exact j3
/-- The known one and the next one. -/
def JB (w : World) (g gn : Nat) (w5 : World) (x a r m : Int) : Prop := J2 w g w5 x a ∧ R2 w5 gn r m ∧ g ≠ gn
theorem JB.new {w : World} {g : Nat} {w4 : World} {x a r m : Int} (h : J2 w g w4 x a) : JB w g w4.heap.size (w4.alloc (.cells #[.int .i64 r, .int .i64 m] 101)) x a r m :=
  ⟨h.up (Up.alloc _ _), R2.new _ _ _, by have := h.2.1.lt; omega⟩
theorem JB.old {w : World} {g : Nat} {wr w4 : World} {x a r m : Int} (h0 : J2 w g wr x a) (h : Up ((wr.alloc (.cells #[.int .i64 0, .int .i64 0] 101)).drew) w4) : JB w g wr.heap.size ((w4.setCell ⟨wr.heap.size, 0, none⟩ (.int .i64 r)).setCell ⟨wr.heap.size, 1, none⟩ (.int .i64 m)) x a r m := by
  have h1 : R2 w4 wr.heap.size 0 0 := ((R2.new wr 0 0).up (Up.drew _)).up h
  have h2 : J2 w g w4 x a := h0.up (((Up.alloc _ _).trans (Up.drew _)).trans h)
  have hl := h0.2.1.lt
  have lw := h0.1.size
  refine ⟨⟨Below.setCell (Below.setCell h2.1 lw _) lw _, ?_, h2.2.2⟩, ((h1.set r).1.set m).2, by omega⟩
  have := h2.2.1
  unfold R2 at *
  rw [Below.heap_setCell _ _ _ _ (by simp only; omega), Below.heap_setCell _ _ _ _ (by simp only; omega)]; exact this
theorem JB.cells {w : World} {g gn : Nat} {w5 : World} {x a r m : Int} (h : JB w g gn w5 x a r m) : (w5.cell? ⟨g, 0, none⟩ = some (.int .i64 x) ∧ w5.cell? ⟨g, 1, none⟩ = some (.int .i64 a)) ∧ w5.cell? ⟨gn, 0, none⟩ = some (.int .i64 r) ∧ w5.cell? ⟨gn, 1, none⟩ = some (.int .i64 m) :=
  ⟨h.1.2.1.cells, h.2.1.cells⟩
theorem step_err {x a r m : Int} (h : (stepF x a r m).2.2 ≠ 0) : (stepF x a r m).1 = 0 ∧ (stepF x a r m).2.1 = 0 := by
  unfold stepF at *
  split
  · exact ⟨rfl, rfl⟩
  · split
    · exact ⟨rfl, rfl⟩
    · rename_i h1 h2
      rw [if_neg h1, if_neg h2] at h
      exact absurd rfl h
end Go.Proofs.Ytijfmaepoamkgaa.Fo
/- A region that draws its order, in an order of one's own: what reads first, calls where nothing else may come up, what writes behind all that reads. No program. -/
namespace Go.Proofs.Ytijfmaepoamkgaa
open Go

/-- What has come up has all that it waits for behind it. -/
def Cl (ops : Array Oper) (listed : Array Bool) : Prop := ∀ j oj, ops[j]? = some oj → listed.getD j false = true → ∀ e ∈ oj.after, Region.binds .any e = true → listed.getD e.on false = true
theorem Cl.set {ops : Array Oper} {listed : Array Bool} {i : Nat} (h : Cl ops listed) (hi : i ∈ Region.ready .any ops listed) : Cl ops (listed.setIfInBounds i true) := by
  obtain ⟨_, oi, hoi, hall⟩ := mem_ready.1 hi
  intro j oj hj hl e he hb
  by_cases hij : i = j
  · subst hij
    obtain rfl : oj = oi := Option.some.inj (hj.symm.trans hoi)
    exact getD_set_true (hall e he hb)
  · rw [getD_set_ne false hij] at hl
    exact getD_set_true (h j oj hj hl e he hb)
/-- j waits for i, by way of others. -/
def reachB (ops : Array Oper) : Nat → Nat → Nat → Bool
  | 0, j, i => Region.waitsFor .any ops j i
  | f + 1, j, i => Region.waitsFor .any ops j i || (List.range ops.size).any fun k => Region.waitsFor .any ops j k && reachB ops f k i
theorem reach_listed {ops : Array Oper} {listed : Array Bool} (h : Cl ops listed) : ∀ (f j i : Nat), reachB ops f j i = true → listed.getD j false = true → listed.getD i false = true := by
  have one : ∀ j i, Region.waitsFor .any ops j i = true → listed.getD j false = true → listed.getD i false = true := fun j i hw hl => by
    obtain ⟨oj, hoj, e, he, hb, hon⟩ := Region.waitsFor_spec hw
    rw [← hon]
    exact h j oj hoj hl e he hb
  intro f
  induction f with
  | zero => exact one
  | succ f ih =>
    intro j i hr hl
    simp only [reachB, Bool.or_eq_true, List.any_eq_true, List.mem_range, Bool.and_eq_true] at hr
    rcases hr with hr | ⟨k, _, hk1, hk2⟩
    · exact one j i hr hl
    · exact ih k i hk2 (one j k hk1 hl)
theorem reach_ready {ops : Array Oper} {listed : Array Bool} (h : Cl ops listed) {f n i : Nat} (hr : reachB ops f n i = true) (hn : n ∈ Region.ready .any ops listed) : listed.getD i false = true := by
  obtain ⟨_, on, hon, hall⟩ := mem_ready.1 hn
  have one : ∀ i, Region.waitsFor .any ops n i = true → listed.getD i false = true := fun i hw => by
    obtain ⟨o2, ho2, e, he, hb, hoe⟩ := Region.waitsFor_spec hw
    obtain rfl : o2 = on := Option.some.inj (ho2.symm.trans hon)
    rw [← hoe]; exact hall e he hb
  cases f with
  | zero => exact one i hr
  | succ f =>
    simp only [reachB, Bool.or_eq_true, List.any_eq_true, List.mem_range, Bool.and_eq_true] at hr
    rcases hr with hr | ⟨k, _, hk1, hk2⟩
    · exact one i hr
    · exact reach_listed h f k i hk2 (one k hk1)
/-- What reads may be taken first: S0 holds as long as number n has not come up; or it looks at no world. -/
theorem anyC_first {P : Program} {ops : Array Oper} {Q : Exit → Act → World → Prop} {n : Nat} {S0 S1 : World → Prop} {i fu : Nat} {oi : Oper} {v : Value} (hin : i ≠ n) (hk : (reachB ops fu n i = true ∧ S1 = S0) ∨ (∀ w, S1 w)) (hi : ops[i]? = some oi) (hsel : ∀ (j : Nat) (o : Oper) cs b, ops[j]? = some o → o.op ≠ .select cs b)
    (hQ : ∀ c a w, Q (.panic c) (a.put oi.dst v) w → Q (.panic c) a w) : ∀ (f : Nat) (listed : Array Bool) (a : Act) (w : World), n < listed.size → Cl ops listed →
    (∀ j oj, ops[j]? = some oj → j ≠ i → listed.getD j true = false → (∀ e ∈ oj.after, Region.binds .any e = true → e.on ≠ i) → oi.apart ops oj = true) →
    i ∈ Region.ready .any ops listed → YieldsIf P ops S1 oi v a → Early n S0 listed w → S1 w →
    anyE P ops Q n S0 f (listed.setIfInBounds i true) (a.put oi.dst v) w → anyE P ops Q n S0 (f + 1) listed a w := by
  have hset : ∀ (listed : Array Bool) (w : World), Early n S0 listed w → Early n S0 (listed.setIfInBounds i true) w := fun listed w h hn => h (by rw [getD_set_ne true hin] at hn; exact hn)
  intro f
  induction f with
  | zero =>
    intro listed a w _ _ _ hr hy hE hS H
    refine ⟨fun h => (by rw [h] at hr; cases hr), fun j hj => ?_⟩
    by_cases hji : j = i
    · subst hji
      exact hy.wpOp hi hS ⟨hset _ _ hE, H⟩
    · have k := ready_mono hj hji
      rw [H.1] at k
      cases k
  | succ f ih =>
    intro listed a w hlt hC hfree hr hy hE hS H
    have hun := (mem_ready.1 hr).1
    refine ⟨fun h => (by rw [h] at hr; cases hr), fun j hj => ?_⟩
    by_cases hji : j = i
    · subst hji
      exact hy.wpOp hi hS ⟨hset _ _ hE, H⟩
    · obtain ⟨hjun, oj, hoj, hall⟩ := mem_ready.1 hj
      have hnot : ∀ e ∈ oj.after, Region.binds .any e = true → e.on ≠ i := fun e he hb heq => by
        have k := hall e he hb
        rw [heq, getD_both hun] at k
        cases k
      have hp := wpOp_putIf hoj (hfree j oj hoj hji hjun hnot) (fun cs b => hsel i oi cs b hi) (fun cs b => hsel j oj cs b hoj) hQ hy (H.2 j (ready_mono hj hji))
      refine wpOp_mono (fun a' w' k => ?_) hp
      obtain ⟨k1, k2, k3⟩ := k
      have hE' : Early n S0 (listed.setIfInBounds j true) w' := fun hn => k2 (by
        by_cases hjn : j = n
        · subst hjn
          rcases Nat.lt_or_ge j listed.size with q | q
          · simp [q] at hn
          · simp [q] at hn
        · rw [getD_set_ne true hjn] at hn ⊢
          rw [getD_set_ne true hin]; exact hn)
      have hS' : S1 w' := by
        rcases hk with ⟨hre, rfl⟩ | hk
        · have hjn : j ≠ n := by
            rintro rfl
            have := reach_ready hC hre hj
            rw [getD_both hun] at this
            cases this
          have hnun : listed.getD n true = false := by
            cases hq : listed.getD n true with
            | false => rfl
            | true =>
              exfalso
              have hq2 : listed.getD n false = true := by simp [hlt] at hq ⊢; exact hq
              have := reach_listed hC _ _ _ hre hq2
              rw [getD_both hun] at this
              cases this
          exact hE' (by rw [getD_set_ne true hjn]; exact hnun)
        · exact hk w'
      rw [Array.setIfInBounds_comm _ _ (Ne.symm hji)] at k3
      refine ⟨hE', ih _ _ _ (by simpa using hlt) (hC.set hj) (fun k ok hk hki hu hno => ?_) (ready_mono hr (Ne.symm hji)) k1 hE' hS' k3⟩
      refine hfree k ok hk hki ?_ hno
      by_cases hjk : j = k
      · subst hjk; exact hjun
      · rw [getD_set_ne true hjk] at hu; exact hu
/-- How an operation comes up: some false: it reads; some true: it is called, where nothing else may come up; none: it looks at no world. -/
def ordB (ops : Array Oper) (g n : Nat) : List (Nat × Option Bool) → Array Bool → Bool
  | [], listed => Region.seqB .any ops g n listed
  | (i, c) :: l, listed => decide (i ≠ n) && (match c with
      | some true => decide (Region.ready .any ops listed = [i])
      | some false => (Region.ready .any ops listed).contains i && Region.free .any ops listed i && reachB ops 6 n i
      | none => (Region.ready .any ops listed).contains i && Region.free .any ops listed i) && ordB ops g n l (listed.setIfInBounds i true)
def OrdW (P : Program) (ops : Array Oper) (Q : Exit → Act → World → Prop) (S0 : World → Prop) (K : Act → World → Prop) : List (Nat × Option Bool) → Act → World → Prop
  | [], a, w => K a w
  | (i, some false) :: l, a, w => ∃ o v d, ops[i]? = some o ∧ o.dst = d ∧ YieldsIf P ops S0 o v a ∧ OrdW P ops Q S0 K l (a.put d v) w
  | (i, none) :: l, a, w => ∃ o v d, ops[i]? = some o ∧ o.dst = d ∧ YieldsIf P ops (fun _ => True) o v a ∧ OrdW P ops Q S0 K l (a.put d v) w
  | (i, some true) :: l, a, w => wpOp P ops Q i (fun a' w' => S0 w' ∧ OrdW P ops Q S0 K l a' w') a w
theorem anyC_ord {P : Program} {ops : Array Oper} {Q : Exit → Act → World → Prop} {n g : Nat} {S0 : World → Prop} {K : Act → World → Prop} (hsel : Region.noSelect ops = true) (hQ : ∀ c a d v w, Q (.panic c) (a.put d v) w → Q (.panic c) a w)
    (hK : ∀ listed a w, Region.seqB .any ops g n listed = true → K a w → anyE P ops Q n S0 g listed a w) : ∀ (l : List (Nat × Option Bool)) (listed : Array Bool) (a : Act) (w : World), S0 w → n < listed.size → Cl ops listed → ordB ops g n l listed = true → OrdW P ops Q S0 K l a w → anyE P ops Q n S0 (l.length + g) listed a w
  | [], listed, a, w, _, _, _, hB, h => by
    rw [List.length_nil, Nat.zero_add]
    exact hK listed a w hB h
  | (i, some false) :: l, listed, a, w, hS, hz, hI, hB, h => by
    simp only [ordB, Bool.and_eq_true, decide_eq_true_eq] at hB
    obtain ⟨⟨hin, ⟨hr, hf⟩, hre⟩, hB'⟩ := hB
    obtain ⟨o, v, d, h0, rfl, hy, hrest⟩ := h
    have hr' : i ∈ Region.ready .any ops listed := by simpa using hr
    rw [show ((i, some false) :: l).length + g = (l.length + g) + 1 by simp; omega]
    refine anyC_first hin (Or.inl ⟨hre, rfl⟩) h0 (Region.noSelect_spec hsel) (fun c a w => hQ c a _ _ w) _ listed a w hz hI (Region.free_spec h0 hf) hr' hy (fun _ => hS) hS ?_
    exact anyC_ord hsel hQ hK l _ _ _ hS (by simpa using hz) (hI.set hr') hB' hrest
  | (i, none) :: l, listed, a, w, hS, hz, hI, hB, h => by
    simp only [ordB, Bool.and_eq_true, decide_eq_true_eq] at hB
    obtain ⟨⟨hin, hr, hf⟩, hB'⟩ := hB
    obtain ⟨o, v, d, h0, rfl, hy, hrest⟩ := h
    have hr' : i ∈ Region.ready .any ops listed := by simpa using hr
    rw [show ((i, none) :: l).length + g = (l.length + g) + 1 by simp; omega]
    refine anyC_first (fu := 0) hin (Or.inr fun _ => trivial) h0 (Region.noSelect_spec hsel) (fun c a w => hQ c a _ _ w) _ listed a w hz hI (Region.free_spec h0 hf) hr' hy (fun _ => hS) trivial ?_
    exact anyC_ord hsel hQ hK l _ _ _ hS (by simpa using hz) (hI.set hr') hB' hrest
  | (i, some true) :: l, listed, a, w, hS, hz, hI, hB, h => by
    simp only [ordB, Bool.and_eq_true, decide_eq_true_eq] at hB
    obtain ⟨⟨hin, hr⟩, hB'⟩ := hB
    have hr' : i ∈ Region.ready .any ops listed := by rw [hr]; simp
    rw [show ((i, some true) :: l).length + g = (l.length + g) + 1 by simp; omega]
    refine ⟨fun h0 => (by rw [hr] at h0; cases h0), fun j hj => ?_⟩
    rw [hr] at hj
    obtain rfl : j = i := by simpa using hj
    exact wpOp_mono (fun a' w' k => ⟨fun _ => k.1, anyC_ord hsel hQ hK l _ _ _ k.1 (by simpa using hz) (hI.set hr') hB' k.2⟩) h
def regB (ops : Array Oper) (n g : Nat) (l : List (Nat × Option Bool)) : Bool := Region.noSelect ops && ordB ops g n l (Array.replicate ops.size false)
theorem wp_region_ord {P : Program} {id : Nat} {Q : Exit → Act → World → Prop} {a : Act} {w : World} {l : List Oper} (n : Nat) (ord : List (Nat × Option Bool)) (S0 : World → Prop) (hm : P.follows .mixedOrders = true) (hlen : n < l.length) (hord : ord.length = n) (hB : regB l.toArray n (l.length - n) ord = true) (hQ : ∀ c a d v w, Q (.panic c) (a.put d v) w → Q (.panic c) a w)
    (hS : S0 w.drew) (h : OrdW P l.toArray Q S0 (fun a' w' => wpList P l.toArray Q (l.drop n) a' w') ord a w.drew) : (Code.region id l.toArray true).wp P Q a w := by
  simp only [regB, Bool.and_eq_true] at hB
  obtain ⟨hs, hlex⟩ := hB
  refine wp_region_any hm ?_
  have H := anyC_ord (P := P) (ops := l.toArray) (Q := Q) (n := n) (g := l.length - n) (S0 := S0) (K := fun a' w' => wpList P l.toArray Q (l.drop n) a' w') hs hQ (fun listed a2 w2 hq hk => by
    obtain ⟨g, hg⟩ : ∃ g, l.length - n = g + 1 := ⟨l.length - n - 1, by omega⟩
    have hgl : (l.drop n).length = g + 1 := by simp; omega
    rw [hg] at hq ⊢
    have hall := wpAny_of_seq (md := .any) (Q' := Q) (l.drop n) n listed a2 w2 (fun j => by simp [List.getElem?_drop]) (by rw [hgl]; exact hq) hk
    rw [hgl] at hall
    simp only [Region.seqB, Bool.and_eq_true, decide_eq_true_eq] at hq
    refine ⟨hall.1, fun j hj => ?_⟩
    have hj2 := hj
    rw [hq.1] at hj2
    obtain rfl : j = n := by simpa using hj2
    have hlate : (listed.setIfInBounds j true).getD j true = true := by
      rcases Nat.lt_or_ge j listed.size with q | q
      · simp [q]
      · simp [q]
    exact wpOp_mono (fun a3 w3 q => ⟨fun hn => absurd hlate (by rw [hn]; decide), any_anyE _ _ _ _ hlate q⟩) (hall.2 _ hj)) ord (Array.replicate l.toArray.size false) a w.drew hS (by simpa using hlen) (fun j oj _ hl => (by rw [getD_replicate_false] at hl; cases hl)) hlex h
  have := anyE_any _ _ _ _ H
  rw [hord, show n + (l.length - n) = l.toArray.size by simp; omega] at this
  exact this
end Go.Proofs.Ytijfmaepoamkgaa
/- Several rings: newRings. -/
namespace Go.Proofs.Ytijfmaepoamkgaa.Fo
open Go.ChangeShapes Go.WideShapes Go.ChangeAt Go.RowKit

theorem info45 : (Try.prog.info? 101).map (fun i => (i.zero, i.size, i.bytes)) = some (some (.agg #[.int .i64 0, .int .i64 0]), 2, 16) := by kernel_rfl
theorem made2 {n : Nat} (h : n ≤ 8) : (madeCells (Value.agg #[.int .i64 0, .int .i64 0]).cells (n * 2)).toList = List.replicate (n * 2) (.int .i64 0) := by
  rcases (show n = 0 ∨ n = 1 ∨ n = 2 ∨ n = 3 ∨ n = 4 ∨ n = 5 ∨ n = 6 ∨ n = 7 ∨ n = 8 by omega) with rfl | rfl | rfl | rfl | rfl | rfl | rfl | rfl | rfl <;> kernel_rfl
/-- A row of pairs in memory. -/
def RG (w : World) (g n : Nat) (f : Nat → Int × Int) : Prop := ∃ cs : Array Value, w.heap[g]? = some (.cells cs 101) ∧ cs.size = n * 2 ∧ ∀ i, i < n → cs[i * 2]? = some (.int .i64 (f i).1) ∧ cs[i * 2 + 1]? = some (.int .i64 (f i).2)
theorem RG.cells {w : World} {g n : Nat} {f : Nat → Int × Int} (h : RG w g n f) {i : Nat} (hi : i < n) : w.cell? ⟨g, i * 2, none⟩ = some (.int .i64 (f i).1) ∧ w.cell? ⟨g, i * 2 + 1, none⟩ = some (.int .i64 (f i).2) := by
  obtain ⟨cs, h1, h2, h3⟩ := h
  unfold World.cell?
  simp [h1, (h3 i hi).1, (h3 i hi).2]
theorem RG.frz {w : World} {g n : Nat} {f : Nat → Int × Int} (h : RG w g n f) (i : Nat) : w.frozen? ⟨g, i, none⟩ = false := by
  obtain ⟨cs, h1, h2, h3⟩ := h
  unfold World.frozen?
  simp [h1]
theorem RG.lt {w : World} {g n : Nat} {f : Nat → Int × Int} (h : RG w g n f) : g < w.heap.size := by
  obtain ⟨cs, h1, h2, h3⟩ := h
  exact (Array.getElem?_eq_some_iff.1 h1).1
theorem RG.up {w w' : World} {g n : Nat} {f : Nat → Int × Int} (h : RG w g n f) (hu : Up w w') : RG w' g n f := by
  have := hu.block g h.lt
  obtain ⟨cs, h1, h2, h3⟩ := h
  exact ⟨cs, by rw [this]; exact h1, h2, h3⟩
theorem RG.mono {w : World} {g n : Nat} {f f' : Nat → Int × Int} (h : RG w g n f) (e : ∀ i, i < n → f i = f' i) : RG w g n f' := by
  obtain ⟨cs, h1, h2, h3⟩ := h
  exact ⟨cs, h1, h2, fun i hi => by rw [← e i hi]; exact h3 i hi⟩
theorem RG.there {w : World} {g n : Nat} {f : Nat → Int × Int} (h : RG w g n f) {i : Nat} (hi : i < n) : w.there g (i * 2) 2 := by
  intro j hj
  obtain ⟨c0, c1⟩ := h.cells hi
  refine ⟨?_, h.frz _⟩
  rcases (show j = 0 ∨ j = 1 by omega) with rfl | rfl
  · rw [Nat.add_zero, c0]; rfl
  · rw [c1]; rfl
def setG (w : World) (g i : Nat) (r m : Int) : World := w.setCells g (i * 2) [.int .i64 r, .int .i64 m]
theorem setG_is (w : World) (g i : Nat) (r m : Int) : setG w g i r m = (w.setCell ⟨g, i * 2, none⟩ (.int .i64 r)).setCell ⟨g, i * 2 + 1, none⟩ (.int .i64 m) := rfl
theorem Up.setG {w w' : World} {g : Nat} (h : Up w w') (hg : w.heap.size ≤ g) (i : Nat) (r m : Int) : Up w (setG w' g i r m) := by
  rw [setG_is]
  exact Below.setCell (Below.setCell h hg _) hg _
theorem RG.put {w : World} {g n : Nat} {f : Nat → Int × Int} (h : RG w g n f) {i : Nat} (hi : i < n) (r m : Int) : RG (setG w g i r m) g n (fun j => if j = i then (r, m) else f j) := by
  obtain ⟨cs, h1, h2, h3⟩ := h
  refine ⟨(cs.setIfInBounds (i * 2) (.int .i64 r)).setIfInBounds (i * 2 + 1) (.int .i64 m), ?_, by simpa using h2, fun j hj => ?_⟩
  · rw [setG_is]
    unfold World.setCell
    simp only [Array.getElem?_modify, h1]
    simp
  · by_cases e : j = i
    · subst e
      simp only [if_true]
      constructor
      · rw [Array.getElem?_setIfInBounds_ne (by omega), Array.getElem?_setIfInBounds_self_of_lt (by omega)]
      · rw [Array.getElem?_setIfInBounds_self_of_lt (by simp; omega)]
    · simp only [e, if_false]
      rw [Array.getElem?_setIfInBounds_ne (by omega), Array.getElem?_setIfInBounds_ne (by omega), Array.getElem?_setIfInBounds_ne (by omega), Array.getElem?_setIfInBounds_ne (by omega)]
      exact h3 j hj
theorem RG.new {w w' : World} {n b : Nat} (hn : n ≤ 8) (h : w'.ownsRow b 101 2 (.slice (some ⟨w.heap.size, 0, none⟩) n n) n (madeCells (Value.agg #[.int .i64 0, .int .i64 0]).cells (n * 2)).toList) : RG w' w.heap.size n (fun _ => (0, 0)) := by
  rw [made2 hn] at h
  rcases h.2 with ⟨h0, _⟩ | ⟨g, cap, cur, hv, _, hg, _, _, hs, ht⟩
  · cases h0
  · simp only [Value.slice.injEq, Option.some.injEq, Addr.mk.injEq, and_true, true_and] at hv
    obtain ⟨rfl, rfl⟩ := hv
    refine ⟨cur, hg, hs, fun i hi => ?_⟩
    have e : cur.toList = List.replicate (n * 2) (.int .i64 0) := by
      rw [← ht, List.take_of_length_le (by simp; omega)]
    have e2 : ∀ j, j < n * 2 → cur[j]? = some (.int .i64 0) := fun j hj => by
      rw [← Array.getElem?_toList, e]; simp [hj]
    exact ⟨e2 _ (by omega), e2 _ (by omega)⟩
theorem wpList_storeG {ops : Array Oper} {rest : List Oper} {op : Oper} {a : Act} {w : World} {Q : Exit → Act → World → Prop} {g n i : Nat} {f : Nat → Int × Int} {r m : Int} (h : RG w g n f) (hi : i < n) (hgd : op.guard = none) (p q : Operand) (ho : op.op = .store 101 p q)
    (hx : a.eval p = .pointer (some ⟨g, i * 2, none⟩)) (hy : a.eval q = .agg #[.int .i64 r, .int .i64 m])
    (hk : wpList Try.prog ops Q rest (a.put op.dst undef) (setG w g i r m)) : wpList Try.prog ops Q (op :: rest) a w :=
  wpList_store_mid hgd 101 p q ho g (i * 2) _ hx hy (h.there hi) size45 (by simp [Value.oneCell']) hk
/-- The rings of n remainders. -/
def ringF (r m : Nat → Int) (k : Nat) : Nat → Int × Int := fun j => if j < k then (r j % m j, m j) else (0, 0)
/-- What newRings answers: the code. -/
def ringsE (m : Nat → Int) : Nat → Int
  | 0 => 0
  | i + 1 => if ringsE m i ≠ 0 then ringsE m i else if m i < 1 ∨ 1099511627776 < m i then 2 else 0
theorem rings_ok {m : Nat → Int} : ∀ {n : Nat}, ringsE m n = 0 → ∀ i, i < n → 1 ≤ m i ∧ m i ≤ 1099511627776
  | 0, _, i, hi => by omega
  | n + 1, h, i, hi => by
    unfold ringsE at h
    by_cases h1 : ringsE m n ≠ 0
    · rw [if_pos h1] at h; exact absurd h h1
    · rw [if_neg h1] at h
      by_cases h2 : m n < 1 ∨ 1099511627776 < m n
      · rw [if_pos h2] at h; cases h
      · by_cases e : i = n
        · subst e; omega
        · exact rings_ok (n := n) (by omega) i (by omega)
theorem rings_bad {m : Nat → Int} {i : Nat} (h0 : ringsE m i = 0) (hb : m i < 1 ∨ 1099511627776 < m i) : ∀ n, ringsE m (i + 1 + n) = 2
  | 0 => by rw [Nat.add_zero, ringsE, if_neg (by omega), if_pos hb]
  | n + 1 => by
    have := rings_bad h0 hb n
    rw [← Nat.add_assoc, ringsE, if_pos (by rw [this]; decide)]; exact this
theorem rings_next {m : Nat → Int} {i : Nat} (h0 : ringsE m i = 0) (hg : 1 ≤ m i ∧ m i ≤ 1099511627776) : ringsE m (i + 1) = 0 := by
  rw [ringsE, if_neg (by omega), if_neg (by omega)]
/-- The code of newRings, whole. -/
def ringsC (m : Nat → Int) (n1 n2 : Nat) (bad : Bool) (most : Int) : Int :=
  if 8 < min n1 n2 then 3 else if ringsE m (min n1 n2) ≠ 0 then ringsE m (min n1 n2) else if bad then 2 else if 4194304 < most then 3 else 0
/-- What newRings leaves. -/
def RN (w : World) (r m : Nat → Int) (k : Nat) (e : Ending) (w' : World) : Prop := ∃ g, e = .returned (.tuple #[.slice (some ⟨g, 0, none⟩) k k, .int .i64 0]) ∧ Hid (Up w w' ∧ RG w' g k (ringF r m k) ∧ w.heap.size ≤ g)
theorem t45b (p q : Option Addr) (n1 n2 c1 c2 : Nat) (bad : Bool) (most : Int) (w : World) (h8 : 8 < min n1 n2) : Calls Try.prog 45 #[.slice p n1 c1, .slice q n2 c2, .bool bad, .int .i64 most] w fun e w' => e = .returned (.tuple #[.slice none 0 0, .int .i64 3]) ∧ Hid (Up w w') := by
  go_enter Try.func45, Try.ntmps45
  go_wp2_with (go_at_call 64; refine (t64b p q n1 n2 c1 c2 _ h8).mono ?_; rintro e w' ⟨rfl, rfl⟩)
  go_ret2
  exact ⟨rfl, Up.refl _⟩
theorem eg65 (args : Array Value) (w : World) : (callFunc 65 args).run Try.prog w = .ok (.enter 65 args) w := enters Try.func65 (by kernel_rfl) (by kernel_rfl) _ _
/-- The loop's state. -/
def NI (w : World) (g k : Nat) (r m : Nat → Int) (i : Nat) (wr : World) : Prop := Up w wr ∧ RG wr g k (ringF r m i) ∧ w.heap.size ≤ g ∧ ringsE m i = 0
set_option maxHeartbeats 4000000 in
theorem t45a (p q : Option Addr) (n1 n2 c1 c2 : Nat) (r m : Nat → Int) (bad : Bool) (most : Int) (w : World) (h8 : min n1 n2 ≤ 8) (hr : IR w p n1 r) (hm : IR w q n2 m) : Calls Try.prog 45 #[.slice p n1 c1, .slice q n2 c2, .bool bad, .int .i64 most] w fun e w' => (ringsC m n1 n2 bad most ≠ 0 ∧ e = .returned (.tuple #[.slice none 0 0, .int .i64 (ringsC m n1 n2 bad most)]) ∧ Hid (Up w w')) ∨ (ringsC m n1 n2 bad most = 0 ∧ RN w r m (min n1 n2) e w') := by
  obtain ⟨k, hk⟩ : ∃ k, min n1 n2 = k := ⟨_, rfl⟩
  have hk1 : k ≤ n1 := by omega
  have hk2 : k ≤ n2 := by omega
  have h25 : Hid (∀ w, Calls Try.prog 64 #[.slice p n1 c1, .slice q n2 c2] w fun e w' => e = .returned (.tuple #[.int .i64 (k : Int), .int .i64 0]) ∧ w' = w) := fun w => by
    have := t64 p q n1 n2 c1 c2 w h8
    rw [hk] at this
    exact this
  have hC : ringsC m n1 n2 bad most = if ringsE m k ≠ 0 then ringsE m k else if bad then 2 else if 4194304 < most then 3 else 0 := by
    unfold ringsC; rw [hk, if_neg (by omega)]
  rw [hk]
  obtain ⟨C, hCC⟩ : ∃ C, ringsC m n1 n2 bad most = C := ⟨_, rfl⟩
  rw [hCC] at hC ⊢
  have HC : Hid (C = if ringsE m k ≠ 0 then ringsE m k else if bad then 2 else if 4194304 < most then 3 else 0) := hC
  have HR : Hid (IR w p n1 r) := hr
  have HM : Hid (IR w q n2 m) := hm
  have HK : (k : Int) ≤ 8 := by omega
  have HK8 : Hid (k ≤ 8) := by show k ≤ 8; omega
  clear hr hm hk h8 hC hCC
  obtain ⟨i0, hi, hz0, hz1, hz2⟩ := info_parts info45
  go_enter Try.func45, Try.ntmps45
  go_wp2_with (first
    | (go_at_call 64; (with_reducible refine (h25.out _).mono ?_); rintro e w ⟨rfl, rfl⟩)
    | (refine wpList_make_full _ rfl _ _ 78 rfl w.heap.size 101 i0 (.agg #[.int .i64 0, .int .i64 0]) 2 Try.underlying78 hi hz0 hz1 .i64 .i64 _ _ k rfl rfl rfl rfl (by rw [hz2]; omega) (by unfold maxLen; omega) (Nat.le_refl _) ?_; intro w1 hown hgr; have HN : Hid (NI w w.heap.size k r m 0 w1) := ⟨Below.grown (Below.refl _ _) hgr (Nat.le_refl _) (fun j hj => by cases hj), (RG.new HK8.out hown).mono (fun i hi => by simp [ringF]), Nat.le_refl _, rfl⟩; clear hown hgr))
  generalize w.heap.size = g at *
  go_loopw [27] (fun vi wr => ∃ i : Nat, i ≤ k ∧ vi = .int .i64 i ∧ Hid (NI w g k r m i wr)) (fun vi _ => k - (intOf vi).toNat)
  case atStart => exact ⟨0, by omega, rfl, HN⟩
  case round =>
    clear HN
    obtain ⟨i, hik, rfl, HI⟩ := hrel
    obtain ⟨hU, hG, hg, hE⟩ := HI.out
    by_cases hlt : i < k
    · obtain ⟨b1, o1, rfl, cr⟩ := HR.out i (by omega)
      obtain ⟨b2, o2, rfl, cm⟩ := HM.out i (by omega)
      have HLT : Hid (i < k) := hlt
      have hiz : (i : Int) < (k : Int) := by omega
      have hiz1 : (i : Int) < (n1 : Int) := by omega
      have hiz2 : (i : Int) < (n2 : Int) := by omega
      have hiz0 : (0 : Int) ≤ (i : Int) := by omega
      obtain ⟨ri, hri⟩ : ∃ t, r i = t := ⟨_, rfl⟩
      obtain ⟨mi, hmi⟩ : ∃ t, m i = t := ⟨_, rfl⟩
      rw [hri] at cr
      rw [hmi] at cm
      by_cases hgd : 1 ≤ mi ∧ mi ≤ 1099511627776
      · have HN : Hid (∀ w', NI w g k r m i w' → NI w g k r m (i + 1) (setG w' g i (ri % mi) mi)) := fun w' h => by
          refine ⟨h.1.setG h.2.2.1 _ _ _, (h.2.1.put HLT.out _ _).mono (fun j hj => ?_), h.2.2.1, rings_next h.2.2.2 (by rw [hmi]; exact hgd)⟩
          unfold ringF
          by_cases e : j = i
          · subst e
            rw [if_pos rfl, if_pos (by omega), hri, hmi]
          · rw [if_neg e]
            by_cases e2 : j < i
            · rw [if_pos e2, if_pos (by omega)]
            · rw [if_neg e2, if_neg (by omega)]
        clear hU hG hg hE
        go_wp2_with fail
        refine wp_region_ord 15 [(0, none), (1, none), (2, none), (3, none), (4, none), (5, some false), (6, none), (7, none), (8, none), (9, some false), (10, some true), (11, none), (12, none), (13, none), (14, none)] (fun w' => NI w g k r m i w') (by kernel_rfl) (by decide) rfl (by kernel_rfl) (fun _ _ d _ _ h => by cases d <;> exact h) ⟨HI.out.1.trans (Up.drew _), HI.out.2.1.up (Up.drew _), HI.out.2.2⟩ ?_
        refine ⟨_, .slice (some ⟨g, 0, none⟩) k k, some 31, rfl, rfl, Or.inl ⟨rfl, fun w' _ => ?_⟩, ?_⟩
        · go_simp
        refine ⟨_, .int .i64 i, some 32, rfl, rfl, Or.inl ⟨rfl, fun w' _ => ?_⟩, ?_⟩
        · go_simp
        refine ⟨_, .slice (some ⟨b1, o1, none⟩) n1 c1, some 33, rfl, rfl, Or.inl ⟨rfl, fun w' _ => ?_⟩, ?_⟩
        · go_simp
        refine ⟨_, .int .i64 i, some 34, rfl, rfl, Or.inl ⟨rfl, fun w' _ => ?_⟩, ?_⟩
        · go_simp
        refine ⟨_, .pointer (some ⟨b1, o1 + i, none⟩), some 35, rfl, rfl, Or.inl ⟨rfl, fun w' _ => ?_⟩, ?_⟩
        · go_simp
        refine ⟨_, .int .i64 ri, some 36, rfl, rfl, Or.inl ⟨rfl, fun w' hS => ?_⟩, ?_⟩
        · have cr' := cell_up cr hS.1
          have cm' := cell_up cm hS.1
          go_simp
        refine ⟨_, .slice (some ⟨b2, o2, none⟩) n2 c2, some 37, rfl, rfl, Or.inl ⟨rfl, fun w' _ => ?_⟩, ?_⟩
        · go_simp
        refine ⟨_, .int .i64 i, some 38, rfl, rfl, Or.inl ⟨rfl, fun w' _ => ?_⟩, ?_⟩
        · go_simp
        refine ⟨_, .pointer (some ⟨b2, o2 + i, none⟩), some 39, rfl, rfl, Or.inl ⟨rfl, fun w' _ => ?_⟩, ?_⟩
        · go_simp
        refine ⟨_, .int .i64 mi, some 40, rfl, rfl, Or.inl ⟨rfl, fun w' hS => ?_⟩, ?_⟩
        · have cr' := cell_up cr hS.1
          have cm' := cell_up cm hS.1
          go_simp
        refine wpOp_call (o := { dst := some 41, op := Op.call { callee := Callee.value (Operand.func 65), args := #[Operand.tmp 36, Operand.tmp 40], argTypes := #[2, 2] }, type := 102, pos := "near.go:48", after := #[{ on := 5, ground := Ground.data }, { on := 9, ground := Ground.data }], guard := none }) rfl rfl rfl #[.int .i64 ri, .int .i64 mi] (by kernel_rfl) (eg65 _ _) ?_
        refine (t65 ri mi hgd.1 hgd.2 _).mono ?_
        rintro e w4 ⟨rfl, HU⟩
        have HI4 : Hid (NI w g k r m i w4) := ⟨(HI.out.1.trans (Up.drew _)).trans HU.out, (HI.out.2.1.up (Up.drew _)).up HU.out, HI.out.2.2⟩
        refine ⟨_, rfl, HI4.out, ?_⟩
        refine ⟨_, .tuple #[.agg #[.int .i64 (ri % mi), .int .i64 mi], .int .i64 0], some 30, rfl, rfl, Or.inl ⟨rfl, fun w' _ => ?_⟩, ?_⟩
        · go_simp
        refine ⟨_, .agg #[.int .i64 (ri % mi), .int .i64 mi], some 42, rfl, rfl, Or.inl ⟨rfl, fun w' _ => ?_⟩, ?_⟩
        · go_simp
        refine ⟨_, .int .i64 0, some 43, rfl, rfl, Or.inl ⟨rfl, fun w' _ => ?_⟩, ?_⟩
        · go_simp
        refine ⟨_, .pointer (some ⟨g, i * 2, none⟩), some 44, rfl, rfl, Or.inl ⟨rfl, fun w' _ => ?_⟩, ?_⟩
        · go_simp
        refine wpList_storeG (r := (ri % mi)) (m := mi) HI4.out.2.1 HLT.out rfl _ _ rfl (by kernel_rfl) (by kernel_rfl) ?_
        dsimp only
        simp only [Act.put, List.setIfInBounds_toArray, List.set_cons_succ, List.set_cons_zero]
        have HN5 : Hid (NI w g k r m (i + 1) (setG w4 g i (ri % mi) mi)) := HN.out w4 HI4.out
        clear HN HI4 HU
        generalize setG w4 g i (ri % mi) mi = w5 at *
        go_wp2
        go_roundw
        case rel => exact ⟨i + 1, HLT.out, by go_num, HN5⟩
        case measure => have := HLT.out; simp [intOf]; omega
      · have hgd2 : mi < 1 ∨ 1099511627776 < mi := by omega
        have HE : Hid (C = 2) := by
          have hb := rings_bad hE (by rw [hmi]; exact hgd2) (k - (i + 1))
          rw [show i + 1 + (k - (i + 1)) = k by omega] at hb
          show C = 2
          rw [HC.out, hb]; rfl
        clear hU hG hg hE
        go_wp2_with fail
        refine wp_region_ord 15 [(0, none), (1, none), (2, none), (3, none), (4, none), (5, some false), (6, none), (7, none), (8, none), (9, some false), (10, some true), (11, none), (12, none), (13, none), (14, none)] (fun w' => NI w g k r m i w') (by kernel_rfl) (by decide) rfl (by kernel_rfl) (fun _ _ d _ _ h => by cases d <;> exact h) ⟨HI.out.1.trans (Up.drew _), HI.out.2.1.up (Up.drew _), HI.out.2.2⟩ ?_
        refine ⟨_, .slice (some ⟨g, 0, none⟩) k k, some 31, rfl, rfl, Or.inl ⟨rfl, fun w' _ => ?_⟩, ?_⟩
        · go_simp
        refine ⟨_, .int .i64 i, some 32, rfl, rfl, Or.inl ⟨rfl, fun w' _ => ?_⟩, ?_⟩
        · go_simp
        refine ⟨_, .slice (some ⟨b1, o1, none⟩) n1 c1, some 33, rfl, rfl, Or.inl ⟨rfl, fun w' _ => ?_⟩, ?_⟩
        · go_simp
        refine ⟨_, .int .i64 i, some 34, rfl, rfl, Or.inl ⟨rfl, fun w' _ => ?_⟩, ?_⟩
        · go_simp
        refine ⟨_, .pointer (some ⟨b1, o1 + i, none⟩), some 35, rfl, rfl, Or.inl ⟨rfl, fun w' _ => ?_⟩, ?_⟩
        · go_simp
        refine ⟨_, .int .i64 ri, some 36, rfl, rfl, Or.inl ⟨rfl, fun w' hS => ?_⟩, ?_⟩
        · have cr' := cell_up cr hS.1
          have cm' := cell_up cm hS.1
          go_simp
        refine ⟨_, .slice (some ⟨b2, o2, none⟩) n2 c2, some 37, rfl, rfl, Or.inl ⟨rfl, fun w' _ => ?_⟩, ?_⟩
        · go_simp
        refine ⟨_, .int .i64 i, some 38, rfl, rfl, Or.inl ⟨rfl, fun w' _ => ?_⟩, ?_⟩
        · go_simp
        refine ⟨_, .pointer (some ⟨b2, o2 + i, none⟩), some 39, rfl, rfl, Or.inl ⟨rfl, fun w' _ => ?_⟩, ?_⟩
        · go_simp
        refine ⟨_, .int .i64 mi, some 40, rfl, rfl, Or.inl ⟨rfl, fun w' hS => ?_⟩, ?_⟩
        · have cr' := cell_up cr hS.1
          have cm' := cell_up cm hS.1
          go_simp
        refine wpOp_call (o := { dst := some 41, op := Op.call { callee := Callee.value (Operand.func 65), args := #[Operand.tmp 36, Operand.tmp 40], argTypes := #[2, 2] }, type := 102, pos := "near.go:48", after := #[{ on := 5, ground := Ground.data }, { on := 9, ground := Ground.data }], guard := none }) rfl rfl rfl #[.int .i64 ri, .int .i64 mi] (by kernel_rfl) (eg65 _ _) ?_
        refine (t65e ri mi hgd2 _).mono ?_
        rintro e w4 ⟨rfl, HU⟩
        have HI4 : Hid (NI w g k r m i w4) := ⟨(HI.out.1.trans (Up.drew _)).trans HU.out, (HI.out.2.1.up (Up.drew _)).up HU.out, HI.out.2.2⟩
        refine ⟨_, rfl, HI4.out, ?_⟩
        refine ⟨_, .tuple #[.agg #[.int .i64 0, .int .i64 0], .int .i64 2], some 30, rfl, rfl, Or.inl ⟨rfl, fun w' _ => ?_⟩, ?_⟩
        · go_simp
        refine ⟨_, .agg #[.int .i64 0, .int .i64 0], some 42, rfl, rfl, Or.inl ⟨rfl, fun w' _ => ?_⟩, ?_⟩
        · go_simp
        refine ⟨_, .int .i64 2, some 43, rfl, rfl, Or.inl ⟨rfl, fun w' _ => ?_⟩, ?_⟩
        · go_simp
        refine ⟨_, .pointer (some ⟨g, i * 2, none⟩), some 44, rfl, rfl, Or.inl ⟨rfl, fun w' _ => ?_⟩, ?_⟩
        · go_simp
        refine wpList_storeG (r := 0) (m := 0) HI4.out.2.1 HLT.out rfl _ _ rfl (by kernel_rfl) (by kernel_rfl) ?_
        dsimp only
        simp only [Act.put, List.setIfInBounds_toArray, List.set_cons_succ, List.set_cons_zero]
        have HN5 : Hid (Up w (setG w4 g i 0 0)) := HI4.out.1.setG HI4.out.2.2.1 _ _ _
        clear HI4 HU
        generalize setG w4 g i 0 0 = w5 at *
        go_wp2
        go_ret2
        exact Or.inl ⟨by rw [HE.out]; decide, by rw [HE.out]; rfl, HN5⟩
    · obtain rfl : i = k := by omega
      have HE : Hid (C = if bad then 2 else if 4194304 < most then 3 else 0) := by
        show _ = _
        rw [HC.out, if_neg (by rw [hE]; simp)]
      clear hU hG hg hE HC
      cases bad with
      | true =>
        go_wp2
        go_ret2
        have e : C = 2 := by rw [HE.out]; rfl
        exact Or.inl ⟨by rw [e]; decide, by rw [e]; rfl, HI.out.1⟩
      | false =>
        by_cases hb : 4194304 < most
        · go_wp2
          go_ret2
          have e : C = 3 := by rw [HE.out, if_neg (by decide), if_pos (by omega)]
          exact Or.inl ⟨by rw [e]; decide, by rw [e]; rfl, HI.out.1⟩
        · go_wp2
          go_ret2
          have e : C = 0 := by rw [HE.out, if_neg (by decide), if_neg (by omega)]
          exact Or.inr ⟨e, g, rfl, HI.out.1, HI.out.2.1, HI.out.2.2.1⟩
end Go.Proofs.Ytijfmaepoamkgaa.Fo
/- Several rings: how far, and the next near one. -/
namespace Go.Proofs.Ytijfmaepoamkgaa.Fo
open Go.ChangeShapes Go.WideShapes Go.ChangeAt Go.RowKit

/-- Rings as they may be. -/
def OKR (F : Nat → Int × Int) (k : Nat) : Prop := ∀ i, i < k → 1 ≤ (F i).2 ∧ (F i).2 ≤ 1099511627776 ∧ 0 ≤ (F i).1 ∧ (F i).1 < (F i).2
/-- How far the farthest one is. -/
def wf (F : Nat → Int × Int) (k : Nat) (x : Int) : Int := worst (fun j => (F j).1) (fun j => (F j).2) x k
theorem wf_succ (F : Nat → Int × Int) (k : Nat) (x : Int) : wf F (k + 1) x = max (wf F k x) (far x (F k).1 (F k).2) := rfl
theorem wf_lt {F : Nat → Int × Int} {k : Nat} (h : OKR F k) (x : Int) : 0 ≤ wf F k x ∧ wf F k x < 1099511627776 :=
  ⟨worst_nn _ _ _ _, worst_lt _ _ _ _ (by decide) k fun i hi => ⟨(h i hi).1, (h i hi).2.1⟩⟩
/-- How many on, of all rings. -/
def waitM (F : Nat → Int × Int) (x off : Int) : Nat → Int
  | 0 => 0
  | n + 1 => max (waitM F x off n) (waitF (F n).1 (F n).2 x off)
theorem wait_pos {r m x off : Int} (hm : 1 ≤ m) (ho : 0 ≤ off) : 0 ≤ waitF r m x off ∧ waitF r m x off ≤ m ∧ (waitF r m x off = 0 → far x r m ≤ off) ∧ ∀ j, x ≤ j → j < x + waitF r m x off → off < far j r m := by
  have r0 := Int.emod_nonneg (x - r) (show m ≠ 0 by omega)
  have r1 := Int.emod_lt_of_pos (x - r) (show 0 < m by omega)
  have hf := far_min (x := x) (r := r) hm
  unfold waitF
  by_cases h : far x r m ≤ off
  · rw [if_pos h]
    exact ⟨by omega, by omega, fun _ => h, fun j h1 h2 => by omega⟩
  · rw [if_neg h]
    refine ⟨by omega, by omega, fun h0 => by omega, fun j h1 h2 => ?_⟩
    have hj := far_min (x := j) (r := r) hm
    have e : (j - r) % m = (x - r) % m + (j - x) := by
      have e1 := Int.mul_ediv_add_emod (x - r) m
      have : j - r = ((x - r) % m + (j - x)) + m * ((x - r) / m) := by omega
      rw [this, Int.add_mul_emod_self_left, Int.emod_eq_of_lt (by omega) (by omega)]
    rw [e] at hj
    omega
theorem waitM_ok {F : Nat → Int × Int} {k : Nat} (h : OKR F k) (x : Int) {off : Int} (ho : 0 ≤ off) : 0 ≤ waitM F x off k ∧ waitM F x off k ≤ 1099511627776 ∧ (waitM F x off k = 0 → wf F k x ≤ off) ∧ ∀ j, x ≤ j → j < x + waitM F x off k → off < wf F k j := by
  induction k with
  | zero => exact ⟨Int.le_refl _, by unfold waitM; omega, fun _ => ho, fun j h1 h2 => by simp only [waitM] at h2; omega⟩
  | succ n ih =>
    obtain ⟨a1, a2, a3, a4⟩ := ih fun i hi => h i (by omega)
    obtain ⟨q1, q2, q3, q4⟩ := h n (by omega)
    obtain ⟨b1, b2, b3, b4⟩ := wait_pos (r := (F n).1) (x := x) q1 ho
    simp only [waitM, wf_succ]
    refine ⟨by omega, by omega, fun h0 => ?_, fun j h1 h2 => ?_⟩
    · have := a3 (by omega)
      have := b3 (by omega)
      omega
    · by_cases hj : j < x + waitM F x off n
      · have := a4 j h1 hj
        omega
      · have := b4 j h1 (by omega)
        omega
/-- What 'next' answers. -/
def Nx (F : Nat → Int × Int) (k : Nat) (x off most y : Int) : Prop := x ≤ y ∧ y ≤ 4398046511104 ∧ (∀ j, x ≤ j → j < y → off < wf F k j) ∧ (y < most → wf F k y ≤ off)
set_option maxHeartbeats 4000000 in
theorem t46 (F : Nat → Int × Int) (g k : Nat) (x off most : Int) (w : World) (hF : OKR F k) (hG : RG w g k F) (hk : k ≤ 8) (hx : 0 ≤ x ∧ x ≤ 4398046511104) (ho : 0 ≤ off ∧ off ≤ 9223372036854775807) (hm : most ≤ 4194304) : Calls Try.prog 46 #[.slice (some ⟨g, 0, none⟩) k k, .int .i64 x, .int .i64 off, .int .i64 most] w fun e w' => ∃ y, e = .returned (.int .i64 y) ∧ Hid (Nx F k x off most y ∧ Up w w') := by
  have HF : Hid (OKR F k) := hF
  have HG : Hid (RG w g k F) := hG
  have hk8 : (k : Int) ≤ 8 := by omega
  clear hF hG
  go_enter Try.func46, Try.ntmps46
  go_wp2
  go_loopw [1] (fun v1 wr => ∃ y : Int, v1 = .int .i64 y ∧ 0 ≤ y ∧ y ≤ 4398046511104 ∧ Hid (x ≤ y ∧ ∀ j, x ≤ j → j < y → off < wf F k j) ∧ Hid (Up w wr)) (fun v1 _ => (most - intOf v1).toNat)
  case atStart => exact ⟨x, rfl, hx.1, hx.2, ⟨Int.le_refl _, fun j h1 h2 => by omega⟩, Up.refl _⟩
  case round =>
    obtain ⟨y, rfl, y0, y1, HY, HU⟩ := hrel
    by_cases hlt : y < most
    · go_wp2
      obtain ⟨a1, a2, a3, a4⟩ := waitM_ok HF.out y ho.1
      have HA : Hid ((waitM F y off k = 0 → wf F k y ≤ off) ∧ ∀ j, y ≤ j → j < y + waitM F y off k → off < wf F k j) := ⟨a3, a4⟩
      clear a3 a4
      go_loopw [17, 9] (fun vi vs wr2 => ∃ (i : Nat) (s : Int), i ≤ k ∧ vi = .int .i64 i ∧ vs = .int .i64 s ∧ Hid (s = waitM F y off i) ∧ Hid (Up w wr2)) (fun vi _ _ => k - (intOf vi).toNat)
      case atStart => exact ⟨0, 0, by omega, rfl, rfl, rfl, HU⟩
      case round =>
        obtain ⟨i, s, hi, rfl, rfl, HS, HU2⟩ := hrel
        by_cases hik : i < k
        · obtain ⟨c0, c1⟩ := (HG.out.up HU2.out).cells hik
          obtain ⟨q1, q2, q3, q4⟩ := HF.out i hik
          have HZ2 : Hid (waitM F y off (i + 1) = max s (waitF (F i).1 (F i).2 y off)) := by show _ = _; rw [waitM, HS.out]
          generalize (F i).1 = ri at *
          generalize (F i).2 = mi at *
          have HLT : Hid (i < k) := hik
          have hiz : (i : Int) < (k : Int) := by omega
          have hiz0 : (0 : Int) ≤ (i : Int) := by omega
          go_wp2_with (go_at_call 66; (with_reducible refine (t66 ri mi y off q1 q2 ⟨q3, q4⟩ (by omega) ho _).mono ?_); rintro e w3 ⟨rfl, HU3⟩)
          all_goals
            go_roundw
            case rel => exact ⟨i + 1, _, HLT.out, by go_num, rfl, by show _ = _; rw [HZ2.out]; omega, (HU2.out.trans (Up.alloc _ _)).trans HU3.out⟩
            case measure => have := HLT.out; simp [intOf]; omega
        · obtain rfl : i = k := by omega
          have hs0 : 0 ≤ s ∧ s ≤ 1099511627776 := by rw [HS.out]; exact ⟨a1, a2⟩
          by_cases hz : s = 0
          · subst hz
            go_wp2
            go_ret
            exact ⟨y, rfl, ⟨HY.out.1, y1, HY.out.2, fun _ => HA.out.1 HS.out.symm⟩, HU2.out⟩
          · have hzb : (s == 0) = false := by simpa using hz
            go_wp2
            go_roundw
            case rel =>
              refine ⟨y + s, rfl, by omega, by omega, ⟨by have := HY.out.1; omega, fun j h1 h2 => ?_⟩, HU2⟩
              by_cases hj : j < y
              · exact HY.out.2 j h1 hj
              · exact HA.out.2 j (by omega) (by rw [← HS.out]; exact h2)
            case measure => simp [intOf]; omega
    · go_wp2
      go_ret
      exact ⟨y, rfl, ⟨HY.out.1, y1, HY.out.2, fun h => absurd h (by omega)⟩, HU.out⟩
end Go.Proofs.Ytijfmaepoamkgaa.Fo
/- Best and Near. -/
namespace Go.Proofs.Ytijfmaepoamkgaa.Fo
open Go.ChangeShapes Go.WideShapes Go.ChangeAt Go.RowKit

theorem t45 (p q : Option Addr) (n1 n2 c1 c2 : Nat) (r m : Nat → Int) (bad : Bool) (most : Int) (w : World) (hr : IR w p n1 r) (hm : IR w q n2 m) : Calls Try.prog 45 #[.slice p n1 c1, .slice q n2 c2, .bool bad, .int .i64 most] w fun e w' => (ringsC m n1 n2 bad most ≠ 0 ∧ e = .returned (.tuple #[.slice none 0 0, .int .i64 (ringsC m n1 n2 bad most)]) ∧ Hid (Up w w')) ∨ (ringsC m n1 n2 bad most = 0 ∧ RN w r m (min n1 n2) e w') := by
  by_cases h : min n1 n2 ≤ 8
  · exact t45a p q n1 n2 c1 c2 r m bad most w h hr hm
  · refine (t45b p q n1 n2 c1 c2 bad most w (by omega)).mono fun e w' k => Or.inl ?_
    have : ringsC m n1 n2 bad most = 3 := by unfold ringsC; rw [if_pos (by omega)]
    rw [this]
    exact ⟨by decide, k.1, k.2⟩
theorem ringsC_ok {m : Nat → Int} {n1 n2 : Nat} {bad : Bool} {most : Int} (h : ringsC m n1 n2 bad most = 0) : min n1 n2 ≤ 8 ∧ (∀ i, i < min n1 n2 → 1 ≤ m i ∧ m i ≤ 1099511627776) ∧ bad = false ∧ most ≤ 4194304 := by
  unfold ringsC at h
  by_cases h1 : 8 < min n1 n2
  · rw [if_pos h1] at h; cases h
  · rw [if_neg h1] at h
    by_cases h2 : ringsE m (min n1 n2) ≠ 0
    · rw [if_pos h2] at h; exact absurd h h2
    · rw [if_neg h2] at h
      cases bad with
      | true => cases h
      | false =>
        by_cases h3 : 4194304 < most
        · simp [h3] at h
        · exact ⟨by omega, rings_ok (by omega), rfl, by omega⟩
theorem ringF_ok {r m : Nat → Int} {k : Nat} (h : ∀ i, i < k → 1 ≤ m i ∧ m i ≤ 1099511627776) : OKR (ringF r m k) k := fun i hi => by
  obtain ⟨h1, h2⟩ := h i hi
  unfold ringF
  rw [if_pos hi]
  exact ⟨h1, h2, Int.emod_nonneg _ (by omega), Int.emod_lt_of_pos _ (by omega)⟩
theorem far_rem {x r m : Int} (hm : 1 ≤ m) : far x (r % m) m = far x r m := by
  rw [← far_min hm, ← far_min hm]
  have : (x - r % m) % m = (x - r) % m := by rw [Int.sub_emod, Int.emod_emod, ← Int.sub_emod]
  rw [this]
/-- The farthest remainder's distance, of the remainders as they came. -/
theorem wf_ring {r m : Nat → Int} {k : Nat} (h : ∀ i, i < k → 1 ≤ m i) (x : Int) : wf (ringF r m k) k x = worst r m x k := by
  have key : ∀ n, n ≤ k → worst (fun j => (ringF r m k j).1) (fun j => (ringF r m k j).2) x n = worst r m x n := by
    intro n
    induction n with
    | zero => intro _; rfl
    | succ n ih =>
      intro hn
      unfold worst
      rw [ih (by omega)]
      have : far x (ringF r m k n).1 (ringF r m k n).2 = far x (r n) (m n) := by
        unfold ringF
        rw [if_pos (by omega)]
        exact far_rem (h n (by omega))
      rw [this]
  exact key k (Nat.le_refl _)
/-- The least, and the first of those. -/
def Bst (W : Int → Int) (n : Int) (y : Int) : Prop := 0 ≤ y ∧ y < n ∧ (∀ j, 0 ≤ j → j < n → W y ≤ W j) ∧ ∀ j, 0 ≤ j → j < y → W y < W j
/-- What Best answers. -/
def BestP (w : World) (C : Int) (r m : Nat → Int) (k : Nat) (most : Int) (e : Ending) (w' : World) : Prop := Hid (Up w w') ∧ ((C ≠ 0 ∧ e = .returned (.tuple #[.int .i64 0, .int .i64 0, .int .i64 C])) ∨ (C = 0 ∧ ∃ y, e = .returned (.tuple #[.int .i64 y, .int .i64 (worst r m y k), .int .i64 0]) ∧ Hid (Bst (fun x => worst r m x k) most y)))
/-- A row of whole numbers of one's own. -/
def OI (b : Nat) (w : World) (v : Value) (d : List Int) : Prop := w.ownsRow b 2 1 v d.length (d.map (Value.int .i64))
theorem info2 : (Try.prog.info? 2).map (fun i => (i.zero, i.size, i.bytes)) = some (some (.int .i64 0), 1, 8) := by kernel_rfl
theorem owns_below {w w' : World} {b m n : Nat} {t : TypeId} {s : Nat} {v : Value} {xs : List Value} (h : w.ownsRow b t s v n xs) (hu : Below m w w') (hm : ∀ k, v.ownBlock = some k → k < m) : w'.ownsRow b t s v n xs := by
  obtain ⟨h1, h2⟩ := h
  refine ⟨h1, ?_⟩
  rcases h2 with h2 | ⟨g, cap, cur, rfl, k2, k3, k4⟩
  · exact Or.inl h2
  · refine Or.inr ⟨g, cap, cur, rfl, k2, ?_, k4⟩
    rw [hu.block g (hm g rfl)]; exact k3
theorem owns_up {w w' : World} {b n : Nat} {t : TypeId} {s : Nat} {v : Value} {xs : List Value} (h : w.ownsRow b t s v n xs) (hu : Up w w') : w'.ownsRow b t s v n xs := owns_below h hu (fun k hk => (h.lt k hk).2)
theorem OI.up {b : Nat} {w w' : World} {v : Value} {d : List Int} (h : OI b w v d) (hu : Up w w') : OI b w' v d := owns_up h hu
theorem OI.base {b b' : Nat} {w : World} {v : Value} {d : List Int} (h : OI b w v d) (hb : b' ≤ b) : OI b' w v d := by
  obtain ⟨h1, h2⟩ := h
  refine ⟨h1, ?_⟩
  rcases h2 with h2 | ⟨g, cap, cur, rfl, k2, k3⟩
  · exact Or.inl h2
  · exact Or.inr ⟨g, cap, cur, rfl, Nat.le_trans hb k2, k3⟩
theorem own_form {b n : Nat} {w : World} {t : TypeId} {s : Nat} {v : Value} {xs : List Value} (h : w.ownsRow b t s v n xs) : ∃ p cap, v = .slice p n cap ∧ (0 < n → ∃ g, p = some ⟨g, 0, none⟩) := by
  rcases h.2 with ⟨rfl, rfl⟩ | ⟨g, cap, cur, rfl, _⟩
  · exact ⟨none, 0, rfl, fun h => by omega⟩
  · exact ⟨_, cap, rfl, fun _ => ⟨g, rfl⟩⟩
theorem OI.nil (b : Nat) (w : World) : OI b w (.slice none 0 0) [] := ⟨by simp, Or.inl ⟨rfl, rfl⟩⟩
theorem OI.cell {b g n cap : Nat} {w : World} {d : List Int} (h : OI b w (.slice (some ⟨g, 0, none⟩) n cap) d) {i : Nat} (hi : i < d.length) : w.cell? ⟨g, i, none⟩ = some (.int .i64 d[i]!) := by
  obtain ⟨p, cap', he, _⟩ := own_form h
  simp only [Value.slice.injEq] at he
  obtain ⟨rfl, rfl, rfl⟩ := he
  rw [World.ownsRow.cellAt h i (by omega)]
  rw [List.getElem?_map, List.getElem?_eq_getElem hi, getElem!_pos d i hi]
  rfl
theorem OI.ir {b : Nat} {w : World} {p : Option Addr} {n cap : Nat} {d : List Int} (h : OI b w (.slice p n cap) d) : d.length = n ∧ IR w p n (fun i => d[i]!) := by
  obtain ⟨p', cap', he, hp⟩ := own_form h
  simp only [Value.slice.injEq] at he
  obtain ⟨rfl, rfl, rfl⟩ := he
  refine ⟨rfl, fun i hi => ?_⟩
  obtain ⟨g, rfl⟩ := hp (by omega)
  exact ⟨g, 0, rfl, by rw [Nat.zero_add]; exact h.cell hi⟩
theorem one_new (w : World) (x : Int) (t : TypeId) : ∀ (j : Nat) (u : Value), [Value.int .i64 x][j]? = some u → (w.alloc (.cells #[.int .i64 x] t)).cell? ((⟨w.heap.size, 0, none⟩ : Addr).add j) = some u := by
  intro j u hj
  match j, hj with
  | 0, hj => simp at hj; subst hj; exact World.cell?_alloc_at _ _ _ _ rfl
theorem one_one (x : Int) : ∀ u ∈ [Value.int .i64 x], u.oneCell' = true := by
  intro u hu; simp at hu; subst hu; rfl
theorem nearL_skip {W : Nat → Int} {off : Int} {a : Nat} : ∀ n, (∀ j, a ≤ j → j < a + n → off < W j) → nearL W off (a + n) = nearL W off a
  | 0, _ => rfl
  | n + 1, h => by
    rw [← Nat.add_assoc, nearL_succ, if_neg (by have := h (a + n) (by omega) (by omega); omega)]
    exact nearL_skip n fun j h1 h2 => h j h1 (by omega)
theorem nearL_to {W : Nat → Int} {off : Int} {a b : Nat} (hab : a ≤ b) (h : ∀ j, a ≤ j → j < b → off < W j) : nearL W off b = nearL W off a := by
  have := nearL_skip (W := W) (off := off) (a := a) (b - a) (fun j h1 h2 => h j h1 (by omega))
  rwa [show a + (b - a) = b by omega] at this
theorem nearL_mono {W : Nat → Int} {off : Int} {a : Nat} : ∀ n, (nearL W off a).length ≤ (nearL W off (a + n)).length
  | 0 => Nat.le_refl _
  | n + 1 => by
    have := nearL_mono (W := W) (off := off) (a := a) n
    rw [← Nat.add_assoc, nearL_succ]
    split <;> simp <;> omega
theorem app_own {w1 wr w3 : World} {o : Obj} {v v2 : Value} {d : List Int} {b : Int} (h : OI w1.heap.size wr v d) (hu : Up w1 wr) (h2 : w3.ownsRow w1.heap.size 2 1 v2 (d.length + 1) (d.map (Value.int .i64) ++ [.int .i64 b])) (hg : (wr.alloc o).grownBy w3 v.ownBlock) : OI w1.heap.size w3 v2 (d ++ [b]) ∧ Up w1 w3 := by
  refine ⟨?_, Below.grown (hu.trans (Up.alloc _ _)) hg (by have := hu.size; simp; omega) (fun j hj => (h.lt j hj).1)⟩
  unfold OI
  rw [List.map_append, List.length_append]
  exact h2
/-- The near ones, of remainders as they came. -/
def nears (r m : Nat → Int) (k : Nat) (off most : Int) : List Int := nearL (fun x => worst r m x k) off most.toNat
/-- Near's code behind that of the rings. -/
def nearC (C : Int) (r m : Nat → Int) (k : Nat) (off most : Int) : Int := if C ≠ 0 then C else if 65536 < (nears r m k off most).length then 3 else 0
/-- What Near answers. -/
def NearP (w : World) (C : Int) (r m : Nat → Int) (k : Nat) (off most : Int) (e : Ending) (w' : World) : Prop := Hid (Up w w') ∧ ((nearC C r m k off most ≠ 0 ∧ e = .returned (.tuple #[.slice none 0 0, .int .i64 (nearC C r m k off most)])) ∨ (nearC C r m k off most = 0 ∧ ∃ v, e = .returned (.tuple #[v, .int .i64 0]) ∧ Hid (OI w.heap.size w' v (nears r m k off most))))
/-- The state of Near's loop: a is the next near one, the row has those below. -/
def NL (F : Nat → Int × Int) (k : Nat) (off most : Int) (w1 : World) (a : Int) (v : Value) (d : List Int) (wr : World) : Prop := d = nearL (fun (x : Nat) => wf F k x) off (min a.toNat most.toNat) ∧ (a < most → wf F k a ≤ off) ∧ OI w1.heap.size wr v d ∧ Up w1 wr
theorem NL.next {F : Nat → Int × Int} {k : Nat} {off most : Int} {w1 : World} {a b : Int} {v v' : Value} {d : List Int} {wr w' : World} (h : NL F k off most w1 a v d wr) (ha0 : 0 ≤ a) (ha : a < most) (hb : Nx F k (a + 1) off most b) (ho : OI w1.heap.size w' v' (d ++ [a])) (hu : Up w1 w') : NL F k off most w1 b v' (d ++ [a]) w' := by
  obtain ⟨h1, h2, h3, h4⟩ := h
  refine ⟨?_, hb.2.2.2, ho, hu⟩
  have e1 : nearL (fun (x : Nat) => wf F k x) off (a.toNat + 1) = d ++ [a] := by
    have hc : ((a.toNat : Nat) : Int) = a := by omega
    rw [nearL_succ, if_pos (by show wf F k ((a.toNat : Nat) : Int) ≤ off; rw [hc]; exact h2 ha), h1, show min a.toNat most.toNat = a.toNat by omega, hc]
  rw [← e1]
  have hb1 := hb.1
  refine (nearL_to (by omega) fun j g1 g2 => ?_).symm
  exact hb.2.2.1 j (by omega) (by omega)
set_option maxHeartbeats 4000000 in
theorem t24 (p q : Option Addr) (n1 n2 c1 c2 : Nat) (r m : Nat → Int) (off most : Int) (w : World) (hr : IR w p n1 r) (hm : IR w q n2 m) (hoff : off ≤ 9223372036854775807) : Calls Try.prog 24 #[.slice p n1 c1, .slice q n2 c2, .int .i64 off, .int .i64 most] w (NearP w (ringsC m n1 n2 (decide (off < 0) || decide (most < 0)) most) r m (min n1 n2) off most) := by
  obtain ⟨C, hC⟩ : ∃ C, ringsC m n1 n2 (decide (off < 0) || decide (most < 0)) most = C := ⟨_, rfl⟩
  have H35 : Hid (∀ w, IR w p n1 r → IR w q n2 m → Calls Try.prog 45 #[.slice p n1 c1, .slice q n2 c2, .bool (decide (off < 0) || decide (most < 0)), .int .i64 most] w fun e w' => (C ≠ 0 ∧ e = .returned (.tuple #[.slice none 0 0, .int .i64 C]) ∧ Hid (Up w w')) ∨ (C = 0 ∧ RN w r m (min n1 n2) e w')) := fun w h1 h2 => by
    have := t45 p q n1 n2 c1 c2 r m (decide (off < 0) || decide (most < 0)) most w h1 h2
    rw [hC] at this
    exact this
  rw [hC]
  have HC : Hid (ringsC m n1 n2 (decide (off < 0) || decide (most < 0)) most = C) := hC
  have HR : Hid (IR w p n1 r) := hr
  have HM : Hid (IR w q n2 m) := hm
  obtain ⟨k, hk⟩ : ∃ k, min n1 n2 = k := ⟨_, rfl⟩
  have HK : Hid (min n1 n2 = k) := hk
  rw [hk] at H35 ⊢
  clear hC hr hm hk
  by_cases hc : C = 0
  · subst hc
    obtain ⟨o1, o2, o3, o4⟩ := ringsC_ok HC.out
    rw [HK.out] at o1 o2
    have hm1 : 0 ≤ most ∧ 0 ≤ off := by simp at o3; omega
    have hb1 : (decide (off < 0)) = false := by simp; omega
    have hb2 : (decide (most < 0)) = false := by simp; omega
    have HF : Hid (OKR (ringF r m k) k) := ringF_ok o2
    have HW : Hid (∀ x, wf (ringF r m k) k x = worst r m x k) := fun x => wf_ring (fun i hi => (o2 i hi).1) x
    have HW2 : Hid (nears r m k off most = nearL (fun (x : Nat) => wf (ringF r m k) k x) off most.toNat) := by
      show _ = _
      unfold nears
      congr 1
      funext x
      exact (HW.out x).symm
    have H35' : Hid (∀ w, IR w p n1 r → IR w q n2 m → Calls Try.prog 45 #[.slice p n1 c1, .slice q n2 c2, .bool false, .int .i64 most] w fun e w' => RN w r m k e w') := fun w h1 h2 => by
      have h := H35.out w h1 h2
      rw [hb1, hb2] at h
      exact h.mono fun e w' h => by
        rcases h with ⟨h, _⟩ | ⟨_, h⟩
        · exact absurd rfl h
        · exact h
    have HN : Hid (k ≤ 8) := o1
    have hmx : most ≤ 4194304 := o4
    obtain ⟨i0, hi, hz0, hz1, hz2⟩ := info_parts info2
    clear H35 HC HK o1 o2 o3 o4 HW
    go_enter Try.func24, Try.ntmps24
    go_wp2_with (first
      | (go_at_call 45; (with_reducible refine (H35'.out _ HR.out HM.out).mono ?_); rintro e w1 ⟨g, rfl, HG⟩)
      | (go_at_call 46; (with_reducible refine (t46 (ringF r m k) g k 0 off most _ HF.out HG.out.2.1 HN.out (by omega) (by omega) hmx).mono ?_); rintro e w2 ⟨a, rfl, HY⟩; have ha1 := HY.out.1.1; have ha2 := HY.out.1.2.1))
    have HG1 : Hid (RG w1 g k (ringF r m k) ∧ Up w w1) := ⟨HG.out.2.1, HG.out.1⟩
    have HS : Hid (NL (ringF r m k) k off most w1 a (.slice none 0 0) [] w2) := by
      refine ⟨?_, HY.out.1.2.2.2, OI.nil _ _, HY.out.2⟩
      have : nearL (fun (x : Nat) => wf (ringF r m k) k x) off (min a.toNat most.toNat) = nearL (fun (x : Nat) => wf (ringF r m k) k x) off 0 := nearL_to (by omega) fun j h1 h2 => HY.out.1.2.2.1 j (by omega) (by omega)
      rw [this]; rfl
    clear HG HR HM H35' HY
    go_loopw [8, 11] (fun v8 v11 wr => ∃ (p : Option Addr) (cap : Nat) (d : List Int) (a : Int), v8 = .slice p d.length cap ∧ v11 = .int .i64 a ∧ 0 ≤ a ∧ a ≤ 4398046511104 ∧ d.length ≤ 65536 ∧ Hid (NL (ringF r m k) k off most w1 a (.slice p d.length cap) d wr)) (fun _ v11 _ => (most - intOf v11).toNat)
    case atStart => exact ⟨none, 0, [], a, rfl, rfl, ha1, ha2, by simp, HS⟩
    case round =>
      clear HS ha1 ha2
      obtain ⟨p', cap, d, b, rfl, rfl, b0, b1, hd, HL⟩ := hrel
      obtain ⟨l1, l2, l3, l4⟩ := HL.out
      have HU : Hid (Up w1 wr) := l4
      have HO : Hid (OI w1.heap.size wr (.slice p' d.length cap) d) := l3
      by_cases hlt : b < most
      · have HL1 : Hid ((nearL (fun (x : Nat) => wf (ringF r m k) k x) off (b.toNat + 1)).length = d.length + 1) := by
          have hc : ((b.toNat : Nat) : Int) = b := by omega
          show _ = _
          rw [nearL_succ, if_pos (by show wf (ringF r m k) k ((b.toNat : Nat) : Int) ≤ off; rw [hc]; exact l2 hlt), l1, show min b.toNat most.toNat = b.toNat by omega]
          simp
        clear l1 l2 l3 l4
        by_cases hf : d.length = 65536
        · have hfb : ((d.length : Int) == 65536) = true := by simp; omega
          go_wp2_with fail
          go_ret2
          have hlen : 65536 < (nears r m k off most).length := by
            rw [HW2.out]
            have := nearL_mono (W := fun (x : Nat) => wf (ringF r m k) k x) (off := off) (a := b.toNat + 1) (most.toNat - (b.toNat + 1))
            rw [show b.toNat + 1 + (most.toNat - (b.toNat + 1)) = most.toNat by omega, HL1.out] at this
            omega
          have hc3 : nearC 0 r m k off most = 3 := by unfold nearC; rw [if_neg (by decide), if_pos hlen]
          exact ⟨HG1.out.2.trans HU.out, Or.inl ⟨by rw [hc3]; decide, by rw [hc3]; rfl⟩⟩
        · have hfb : ((d.length : Int) == 65536) = false := by simp; omega
          have hdl : d.length ≤ 65535 := by omega
          have hsz := HU.out.size
          go_wp2_with (first
            | (at_builtin; refine wpList_append_own _ rfl _ _ 39 rfl w1.heap.size 2 i0 (.int .i64 0) 1 8 Try.underlying39 hi hz0 hz1 hz2 rfl (by decide) _ _ _ rfl (HO.out.alloc _) ⟨wr.heap.size, 0, none⟩ 1 1 [.int .i64 b] rfl rfl (one_new _ _ _) (one_one _) (by unfold maxLen; omega) (by omega) (by simp; omega) ?_; intro v2 w3 h2 hg2 _; have HO2 : Hid (OI w1.heap.size w3 v2 (d ++ [b]) ∧ Up w1 w3) := app_own HO.out HU.out h2 hg2; clear h2 hg2)
            | (go_at_call 46; (with_reducible refine (t46 (ringF r m k) g k (b + 1) off most _ HF.out (HG1.out.1.up HO2.out.2) HN.out (by omega) (by omega) hmx).mono ?_); rintro e w4 ⟨c, rfl, HY⟩))
          obtain ⟨p2, cap2, hv, _⟩ := own_form HO2.out.1
          subst hv
          have y1 := HY.out.1.1
          have y2 := HY.out.1.2.1
          go_roundw
          case rel => exact ⟨p2, cap2, d ++ [b], c, rfl, rfl, by omega, y2, by simp; omega, HL.out.next b0 hlt HY.out.1 (HO2.out.1.up HY.out.2) (HO2.out.2.trans HY.out.2)⟩
          case measure => simp [intOf]; omega
      · have he : nears r m k off most = d := by rw [HW2.out, l1, show min b.toNat most.toNat = most.toNat by omega]
        have HE : Hid (nears r m k off most = d) := he
        clear l1 l2 l3 l4 he
        go_wp2
        go_ret2
        have hc0 : nearC 0 r m k off most = 0 := by unfold nearC; rw [if_neg (by decide), HE.out, if_neg (by omega)]
        exact ⟨HG1.out.2.trans HU.out, Or.inr ⟨hc0, _, rfl, by rw [HE.out]; exact HO.out.base HG1.out.2.size⟩⟩
  · have hcb : (C != 0) = true := by simp [hc]
    have hcn : nearC C r m k off most = C := by unfold nearC; rw [if_pos hc]
    have HCN : Hid (nearC C r m k off most = C) := hcn
    have H35' : Hid (∀ w, IR w p n1 r → IR w q n2 m → Calls Try.prog 45 #[.slice p n1 c1, .slice q n2 c2, .bool (decide (off < 0) || decide (most < 0)), .int .i64 most] w fun e w' => e = .returned (.tuple #[.slice none 0 0, .int .i64 C]) ∧ Hid (Up w w')) := fun w h1 h2 => (H35.out w h1 h2).mono fun e w' h => by
      rcases h with ⟨_, h⟩ | ⟨h, _⟩
      · exact h
      · exact absurd h hc
    clear H35 HC HK hcn
    by_cases ho : off < 0
    · have hb1 : (decide (off < 0)) = true := by simpa using ho
      rw [hb1, Bool.true_or] at H35'
      go_enter Try.func24, Try.ntmps24
      go_wp2_with (go_at_call 45; (with_reducible refine (H35'.out _ HR.out HM.out).mono ?_); rintro e w1 ⟨rfl, HU⟩)
      go_ret2
      exact ⟨HU, Or.inl ⟨by rw [HCN.out]; exact hc, by rw [HCN.out]; rfl⟩⟩
    · have hb1 : (decide (off < 0)) = false := by simp; omega
      rw [hb1, Bool.false_or] at H35'
      go_enter Try.func24, Try.ntmps24
      go_wp2_with (go_at_call 45; (with_reducible refine (H35'.out _ HR.out HM.out).mono ?_); rintro e w1 ⟨rfl, HU⟩)
      go_ret2
      exact ⟨HU, Or.inl ⟨by rw [HCN.out]; exact hc, by rw [HCN.out]; rfl⟩⟩
end Go.Proofs.Ytijfmaepoamkgaa.Fo

/- Pairs in memory: a remainder and its modulus; one more modulus (and). -/
import Derived.Test.YtijfmaepoamkgabJc
import Derived.Test.YtijfmaepoamkgabEf
import Derived.Laws.ResultCell
namespace Go.Proofs.Ytijfmaepoamkgab.Fo
open Go.ChangeShapes Go.WideShapes Go.ChangeAt Go.RowKit

/-- A pair in memory. -/
def R2 (w : World) (g : Nat) (r m : Int) : Prop := w.heap[g]? = some (.cells #[.int .i64 r, .int .i64 m] 70)
theorem R2.cells {w : World} {g : Nat} {r m : Int} (h : R2 w g r m) : w.cell? ⟨g, 0, none⟩ = some (.int .i64 r) ∧ w.cell? ⟨g, 1, none⟩ = some (.int .i64 m) := by
  unfold R2 at h
  unfold World.cell?
  simp [h]
theorem R2.frz {w : World} {g : Nat} {r m : Int} (h : R2 w g r m) (i : Nat) : w.frozen? ⟨g, i, none⟩ = false := by
  unfold R2 at h
  unfold World.frozen?
  simp [h]
theorem R2.set {w : World} {g : Nat} {r m : Int} (h : R2 w g r m) (t : Int) : R2 (w.setCell ⟨g, 0, none⟩ (.int .i64 t)) g t m ∧ R2 (w.setCell ⟨g, 1, none⟩ (.int .i64 t)) g r t := by
  unfold R2 at *
  unfold World.setCell
  simp only [Array.getElem?_modify, h]
  simp
theorem R2.lt {w : World} {g : Nat} {r m : Int} (h : R2 w g r m) : g < w.heap.size := by
  unfold R2 at h
  exact (Array.getElem?_eq_some_iff.1 h).1
theorem R2.up {w w' : World} {g : Nat} {r m : Int} (h : R2 w g r m) (hu : Up w w') : R2 w' g r m := by
  have := hu.block g h.lt
  unfold R2 at *
  rw [this]; exact h
theorem R2.new (w : World) (r m : Int) : R2 (w.alloc (.cells #[.int .i64 r, .int .i64 m] 70)) w.heap.size r m := heap_alloc_last _ _
theorem size45 : (Try.prog.info? 70).map (·.size) = some 2 := by kernel_rfl
theorem results_pair {fn : Func} {p u : Tmp} (h : fn.results = #[.cell p 70, .tmp u]) (tmps : Array Value) (w : World) (g : Nat) (r m : Int) (hp : tmps.getD p undef = .pointer (some ⟨g, 0, none⟩)) (hg : R2 w g r m) :
    (results fn tmps).run Try.prog w = .ok (.tuple #[.agg #[.int .i64 r, .int .i64 m], tmps.getD u undef]) w := by
  have hp' : tmps[p]?.getD undef = .pointer (some ⟨g, 0, none⟩) := by simpa using hp
  have hl := run_loadVar_row w g 70 70 #[.int .i64 r, .int .i64 m] (0, 0) _ hg Try.underlying70 rfl size45
  simp [results, h, hp', asAddr, hl]
theorem t29 (r m : Int) (hm : 1 ≤ m) (hm2 : m ≤ 1099511627776) (w : World) : Calls Try.prog 29 #[.int .i64 r, .int .i64 m] w fun e w' => e = .returned (.tuple #[.agg #[.int .i64 (r % m), .int .i64 m], .int .i64 0]) ∧ Hid (Up w w') := by
  go_enter Try.func29, Try.ntmps29
  go_wp2_with (go_at_call 43; refine (t43 r m (by omega) _).mono ?_; rintro e w' ⟨rfl, rfl⟩)
  exact bodyPost_ret (results_pair Try.results29 _ _ w.heap.size (r % m) m rfl (R2.new _ _ _)) rfl ⟨rfl, Up.alloc _ _⟩
theorem t29e (r m : Int) (h : m < 1 ∨ 1099511627776 < m) (w : World) : Calls Try.prog 29 #[.int .i64 r, .int .i64 m] w fun e w' => e = .returned (.tuple #[.agg #[.int .i64 0, .int .i64 0], .int .i64 2]) ∧ Hid (Up w w') := by
  go_enter Try.func29, Try.ntmps29
  go_wp2_with fail
  all_goals first
    | exact bodyPost_ret (results_pair Try.results29 _ _ w.heap.size 0 0 rfl (R2.new _ _ _)) rfl ⟨rfl, Up.alloc _ _⟩
    | (exfalso; simp_all; omega)
theorem far_min' {x r m : Int} (hm : 1 ≤ m) : (m - (x - r) % m < (x - r) % m → m - (x - r) % m = far x r m) ∧ (¬ m - (x - r) % m < (x - r) % m → (x - r) % m = far x r m) := by
  have := far_min (x := x) (r := r) hm
  constructor <;> intro h <;> omega
/-- How many on: 0, or to the next one that is near. -/
def waitF (r m x off : Int) : Int := if far x r m ≤ off then 0 else m - (x - r) % m - off
theorem t47 (r m x off : Int) (hm : 1 ≤ m) (hm2 : m ≤ 1099511627776) (hr : 0 ≤ r ∧ r < m) (hx : -4611686018427387904 ≤ x ∧ x ≤ 4611686018427387904) (ho : 0 ≤ off ∧ off ≤ 9223372036854775807) (w : World) : Calls Try.prog 47 #[.agg #[.int .i64 r, .int .i64 m], .int .i64 x, .int .i64 off] w fun e w' => e = .returned (.int .i64 (waitF r m x off)) ∧ Hid (Up w w') := by
  have r0 := Int.emod_nonneg (x - r) (show m ≠ 0 by omega)
  have r1 := Int.emod_lt_of_pos (x - r) (show 0 < m by omega)
  obtain ⟨f1, f2⟩ := far_min' (x := x) (r := r) hm
  have HF : Hid ((m - (x - r) % m < (x - r) % m → m - (x - r) % m = far x r m) ∧ (¬ m - (x - r) % m < (x - r) % m → (x - r) % m = far x r m)) := ⟨f1, f2⟩
  clear f1 f2
  go_enter Try.func47, Try.ntmps47
  go_wp2_with (go_at_call 43; refine (t43 (x - r) m (by omega) _).mono ?_; rintro e w' ⟨rfl, rfl⟩)
  all_goals (go_ret; refine ⟨?_, Up.alloc _ _⟩)
  all_goals
    generalize hp : (x - r) % m = p at *
    by_cases hc : m - p < p
    · have e := HF.out.1 hc
      (try simp only [if_pos hc] at *)
      first
        | (rw [waitF, ← e, if_pos (by omega)]; rfl)
        | (rw [waitF, ← e, if_neg (by omega), hp]; rfl)
        | (exfalso; omega)
    · have e := HF.out.2 (by omega)
      (try simp only [if_neg hc] at *)
      first
        | (rw [waitF, ← e, if_pos (by omega)]; rfl)
        | (rw [waitF, ← e, if_neg (by omega), hp]; rfl)
        | (exfalso; omega)
theorem mul_pos1 {a b : Int} (ha : 1 ≤ a) (hb : 1 ≤ b) : 1 ≤ a * b := by
  have := Int.mul_le_mul_of_nonneg_left hb (show 0 ≤ a by omega)
  omega
/-- What 'and' leans on: the divisor, what is apart, the part, the next one. -/
structure An (x a r m g b pt : Int) : Prop where
  g1 : 1 ≤ g
  gm : g ≤ m
  part : m / g = pt
  pt1 : 1 ≤ pt
  pt2 : pt ≤ m
  bb : -1099511627776 ≤ b ∧ b ≤ 1099511627776
  eg : (eucl a 1 0 m 0 1).1 = g
  zero : ((r - x) % m).tmod g = 0 ↔ (r - x) % g = 0
  next : (r - x) % g = 0 → a * pt ≤ 4611686018427387904 → x + ((r - x) % m / g * (b % pt) % pt) * a = (stepF x a r m).1 ∧ 0 ≤ ((r - x) % m / g * (b % pt) % pt) * a ∧ x + ((r - x) % m / g * (b % pt) % pt) * a ≤ 4611686018427387904
theorem An.of {x a r m : Int} (ha : 1 ≤ a) (hx : 0 ≤ x ∧ x < a) (hm : 1 ≤ m) (hm2 : m ≤ 1099511627776) : An x a r m (eucl (a % m) 1 0 m 0 1).1 (eucl (a % m) 1 0 m 0 1).2.1 (m / (eucl (a % m) 1 0 m 0 1).1) := by
  have am0 := Int.emod_nonneg a (show m ≠ 0 by omega)
  have am1 := Int.emod_lt_of_pos a (show 0 < m by omega)
  have h1 := eucl_told (A := a) (B := m) (by omega) (by omega)
  have h2 := eucl_told (A := a % m) (B := m) am0 (by omega)
  have hs := gc_mod h1 h2
  have hst : stepF x a r m = stepF x a r m := rfl
  unfold stepF at hst
  obtain ⟨g1, e1, k1, e2, k2⟩ := h1.parts ha hm
  generalize eucl (a % m) 1 0 m 0 1 = F at *
  have hb0 := h2.bx
  have hgm : F.1 ≤ m := by
    rw [hs]
    have := Int.mul_le_mul_of_nonneg_right k1 (show 0 ≤ (eucl a 1 0 m 0 1).1 by omega)
    omega
  have hpt2 : m / F.1 ≤ m := Int.ediv_le_self _ (by omega)
  have r0 := Int.emod_nonneg (r - x) (show m ≠ 0 by omega)
  have r1 := Int.emod_lt_of_pos (r - x) (show 0 < m by omega)
  have er := Int.mul_ediv_add_emod (r - x) m
  have hgd : F.1 ∣ m := ⟨m / F.1, by rw [Int.mul_comm, hs]; exact e1.symm⟩
  have hz : (r - x) % m % F.1 = (r - x) % F.1 := Int.emod_emod_of_dvd _ hgd
  refine ⟨by omega, hgm, rfl, by rw [hs]; exact k1, hpt2, by omega, hs.symm, ?_, ?_⟩
  · rw [Int.tmod_eq_emod_of_nonneg r0, hz]
  · intro hd hall
    have hc : F.1 ∣ (r - x) % m := Int.dvd_of_emod_eq_zero (by rw [hz]; exact hd)
    have hcc : (r - x) % m / F.1 * F.1 = (r - x) % m := Int.ediv_mul_cancel hc
    have hbd : m ∣ F.2.1 * a - F.1 := by
      have hmk := h2.make
      have ea := Int.mul_ediv_add_emod a m
      exact ⟨F.2.1 * (a / m) - F.2.2, by generalize a / m = q at *; generalize a % m = z at *; subst ea; grind⟩
    have hbd2 : m ∣ F.2.1 * a - (eucl a 1 0 m 0 1).1 := by rw [← hs]; exact hbd
    have st := step_any (rr := r) (c := (r - x) % m / F.1) (b := F.2.1) (t := (r - x) % m / F.1 * (F.2.1 % (m / F.1)) % (m / F.1)) h1 ha hm hx ⟨-((r - x) / m), by rw [← hs, hcc]; grind⟩ hbd2 (by rw [← hs, Int.mul_emod, Int.emod_emod, ← Int.mul_emod])
    rw [← hs] at st
    have hsf : (stepF x a r m).1 = nextX a m F.1 (eucl a 1 0 m 0 1).2.1 x r := by
      unfold stepF
      rw [← hs, if_neg (by omega), if_neg (by omega)]
    rw [hsf]
    refine ⟨st.1, Int.mul_nonneg st.2.1 (by omega), ?_⟩
    generalize (r - x) % m / F.1 * (F.2.1 % (m / F.1)) % (m / F.1) = t at *
    have := Int.mul_le_mul_of_nonneg_right (show t + 1 ≤ m / F.1 by omega) (show 0 ≤ a by omega)
    grind
/-- A pair laid into a pair. -/
def set2 (w : World) (g : Nat) (r m : Int) : World := w.setCells g 0 [.int .i64 r, .int .i64 m]
theorem set2_is (w : World) (g : Nat) (r m : Int) : set2 w g r m = (w.setCell ⟨g, 0, none⟩ (.int .i64 r)).setCell ⟨g, 1, none⟩ (.int .i64 m) := rfl
theorem R2.put {w : World} {g : Nat} {a b : Int} (h : R2 w g a b) (r m : Int) : R2 (set2 w g r m) g r m := by
  rw [set2_is]
  exact ((h.set r).1.set m).2
theorem R2.offs {w : World} {g g' : Nat} {a b : Int} (h : R2 w g a b) (hn : g ≠ g') (r m : Int) : R2 (set2 w g' r m) g a b := by
  rw [set2_is]
  unfold R2 at *
  rw [Below.heap_setCell _ _ _ _ hn, Below.heap_setCell _ _ _ _ hn]; exact h
theorem Up.set2 {w w' : World} {g : Nat} (h : Up w w') (hg : w.heap.size ≤ g) (r m : Int) : Up w (set2 w' g r m) := by
  rw [set2_is]
  exact Below.setCell (Below.setCell h hg _) hg _
theorem R2.there {w : World} {g : Nat} {a b : Int} (h : R2 w g a b) : w.there g 0 2 := by
  intro j hj
  obtain ⟨c0, c1⟩ := h.cells
  refine ⟨?_, by rw [Nat.zero_add]; exact h.frz j⟩
  rcases (show j = 0 ∨ j = 1 by omega) with rfl | rfl
  · rw [Nat.zero_add, c0]; rfl
  · rw [Nat.zero_add, c1]; rfl
theorem wpList_store2 {ops : Array Oper} {rest : List Oper} {op : Oper} {a : Act} {w : World} {Q : Exit → Act → World → Prop} {g : Nat} {x y r m : Int} (h : R2 w g x y) (hgd : op.guard = none) (p q : Operand) (ho : op.op = .store 70 p q)
    (hx : a.eval p = .pointer (some ⟨g, 0, none⟩)) (hy : a.eval q = .agg #[.int .i64 r, .int .i64 m])
    (hk : wpList Try.prog ops Q rest (a.put op.dst undef) (set2 w g r m)) : wpList Try.prog ops Q (op :: rest) a w :=
  wpList_store_mid hgd 70 p q ho g 0 _ hx hy h.there size45 (by simp [Value.oneCell']) hk
/-- The two pairs, boxed, and the answer's. -/
def K2 (W : World) (g g2 g3 : Nat) (w : World) (x a r m : Int) : Prop := Up W w ∧ R2 w g x a ∧ R2 w g2 r m ∧ R2 w g3 0 0 ∧ W.heap.size ≤ g3
theorem K2.up {W : World} {g g2 g3 : Nat} {w w' : World} {x a r m : Int} (h : K2 W g g2 g3 w x a r m) (hu : Up w w') : K2 W g g2 g3 w' x a r m := ⟨h.1.trans hu, h.2.1.up hu, h.2.2.1.up hu, h.2.2.2.1.up hu, h.2.2.2.2⟩
theorem K2.cells {W : World} {g g2 g3 : Nat} {w : World} {x a r m : Int} (h : K2 W g g2 g3 w x a r m) : w.cell? ⟨g, 0, none⟩ = some (.int .i64 x) ∧ w.cell? ⟨g, 1, none⟩ = some (.int .i64 a) ∧ w.cell? ⟨g2, 0, none⟩ = some (.int .i64 r) ∧ w.cell? ⟨g2, 1, none⟩ = some (.int .i64 m) :=
  ⟨h.2.1.cells.1, h.2.1.cells.2, h.2.2.1.cells.1, h.2.2.1.cells.2⟩
theorem keep4 {W : World} {g g2 g3 : Nat} {w w' : World} {x a r m : Int} (h : Hid (K2 W g g2 g3 w x a r m) ∧ w.cell? ⟨g, 0, none⟩ = some (.int .i64 x) ∧ w.cell? ⟨g, 1, none⟩ = some (.int .i64 a) ∧ w.cell? ⟨g2, 0, none⟩ = some (.int .i64 r) ∧ w.cell? ⟨g2, 1, none⟩ = some (.int .i64 m)) (hu : Up w w') :
    Hid (K2 W g g2 g3 w' x a r m) ∧ w'.cell? ⟨g, 0, none⟩ = some (.int .i64 x) ∧ w'.cell? ⟨g, 1, none⟩ = some (.int .i64 a) ∧ w'.cell? ⟨g2, 0, none⟩ = some (.int .i64 r) ∧ w'.cell? ⟨g2, 1, none⟩ = some (.int .i64 m) := by
  have h' : Hid (K2 W g g2 g3 w' x a r m) := h.1.out.up hu
  exact ⟨h', h'.out.cells⟩
theorem K2.new (w : World) (x a r m : Int) : K2 w w.heap.size (w.heap.size + 1) (w.heap.size + 1 + 1) (((w.alloc (.cells #[.int .i64 x, .int .i64 a] 70)).alloc (.cells #[.int .i64 r, .int .i64 m] 70)).alloc (.cells #[.int .i64 0, .int .i64 0] 70)) x a r m := by
  refine ⟨((Up.alloc _ _).trans (Up.alloc _ _)).trans (Up.alloc _ _), ((R2.new w x a).up (Up.alloc _ _)).up (Up.alloc _ _), ?_, ?_, by omega⟩
  · have := R2.new (w.alloc (.cells #[.int .i64 x, .int .i64 a] 70)) r m
    simp at this
    exact this.up (Up.alloc _ _)
  · have := R2.new ((w.alloc (.cells #[.int .i64 x, .int .i64 a] 70)).alloc (.cells #[.int .i64 r, .int .i64 m] 70)) 0 0
    simpa using this
set_option maxHeartbeats 4000000 in
theorem t30 (x a r m : Int) (ha : 1 ≤ a) (ha2 : a ≤ 4611686018427387904) (hx0 : 0 ≤ x) (hx : x < a) (hr0 : 0 ≤ r) (hr : r < m) (hm2 : m ≤ 1099511627776) (w : World) : Calls Try.prog 30 #[.agg #[.int .i64 x, .int .i64 a], .agg #[.int .i64 r, .int .i64 m]] w fun e w' => e = .returned (.tuple #[.agg #[.int .i64 (stepF x a r m).1, .int .i64 (stepF x a r m).2.1], .int .i64 (stepF x a r m).2.2]) ∧ Hid (Up w w') := by
  have am0 := Int.emod_nonneg a (show m ≠ 0 by omega)
  have am1 := Int.emod_lt_of_pos a (show 0 < m by omega)
  have HA : Hid (An x a r m (eucl (a % m) 1 0 m 0 1).1 (eucl (a % m) 1 0 m 0 1).2.1 (m / (eucl (a % m) 1 0 m 0 1).1)) := An.of ha ⟨hx0, hx⟩ (by omega) hm2
  have HG : Hid (∀ w, Calls Try.prog 44 #[.int .i64 (a % m), .int .i64 m] w fun e w' => e = .returned (.tuple #[.int .i64 (eucl (a % m) 1 0 m 0 1).1, .int .i64 (eucl (a % m) 1 0 m 0 1).2.1, .int .i64 (eucl (a % m) 1 0 m 0 1).2.2, .int .i64 0]) ∧ Hid (Up w w')) := fun w => t44 (a % m) m am0 (by omega) (by omega) hm2 w
  generalize eucl (a % m) 1 0 m 0 1 = F at *
  obtain ⟨g, b, y⟩ := F
  simp only at HA HG
  obtain ⟨pt, hpt⟩ : ∃ pt, m / g = pt := ⟨_, rfl⟩
  rw [hpt] at HA
  obtain ⟨a1, a2, a3, a4, a5, a6, a7, a8, a9⟩ := HA.out
  have r0 := Int.emod_nonneg (r - x) (show m ≠ 0 by omega)
  have r1 := Int.emod_lt_of_pos (r - x) (show 0 < m by omega)
  obtain ⟨ap, hap⟩ : ∃ ap, (r - x) % m = ap := ⟨_, rfl⟩
  rw [hap] at a8 a9 r0 r1
  have hto : m.tdiv g = pt := by rw [Int.tdiv_eq_ediv_of_nonneg (by omega)]; exact hpt
  have H8 : Hid (ap.tmod g = 0 ↔ (r - x) % g = 0) := a8
  have H9 : Hid ((r - x) % g = 0 → a * pt ≤ 4611686018427387904 → x + (ap / g * (b % pt) % pt) * a = (stepF x a r m).1 ∧ 0 ≤ (ap / g * (b % pt) % pt) * a ∧ x + (ap / g * (b % pt) % pt) * a ≤ 4611686018427387904) := a9
  clear a8 a9 a3
  obtain ⟨s1, s2, s3, hS⟩ : ∃ s1 s2 s3, stepF x a r m = (s1, s2, s3) := ⟨_, _, _, rfl⟩
  rw [hS]
  have HSF : Hid (stepF x a r m = (s1, s2, s3)) := hS
  clear hS
  have HK := K2.new w x a r m
  obtain ⟨w3, hw3⟩ : ∃ w3, w3 = ((w.alloc (.cells #[.int .i64 x, .int .i64 a] 70)).alloc (.cells #[.int .i64 r, .int .i64 m] 70)).alloc (.cells #[.int .i64 0, .int .i64 0] 70) := ⟨_, rfl⟩
  rw [← hw3] at HK
  go_enter Try.func30, Try.ntmps30
  go_wp2
  rw [← hw3]
  clear hw3
  generalize w.heap.size + 1 + 1 = g3 at *
  generalize w.heap.size + 1 = g2 at *
  generalize w.heap.size = g1 at *
  obtain ⟨c0, c1, c2, c3⟩ := HK.cells
  have HK' : Hid (K2 w g1 g2 g3 w3 x a r m) := HK
  clear HK
  have hrm : a.tmod m = a % m := Int.tmod_eq_emod_of_nonneg (by omega)
  have hm0 : ¬ m = 0 := by omega
  have hg0 : ¬ g = 0 := by omega
  go_region_held3 (fun w' => Hid (K2 w g1 g2 g3 w' x a r m) ∧ w'.cell? ⟨g1, 0, none⟩ = some (.int .i64 x) ∧ w'.cell? ⟨g1, 1, none⟩ = some (.int .i64 a) ∧ w'.cell? ⟨g2, 0, none⟩ = some (.int .i64 r) ∧ w'.cell? ⟨g2, 1, none⟩ = some (.int .i64 m))
    (first | (exact keep4 ⟨HK', c0, c1, c2, c3⟩ (Up.drewN _ 1)) | (exact keep4 ‹_› HU.out) | (exact keep4 ‹_› (Up.drewN _ 1)) | go_keep)
    ((go_at_call 44; (with_reducible refine (HG.out _).mono ?_); rintro e w4 ⟨rfl, HU⟩))
  have HSS := ‹Hid (K2 w g1 g2 g3 w4 x a r m) ∧ _›
  obtain ⟨HK4, d0, d1, d2, d3⟩ := HSS
  clear HK' c0 c1 c2 c3 HG HU
  by_cases hz : (r - x) % g = 0
  · have hz1 : ap.tmod g = 0 := H8.out.2 hz
    have hzb : (ap.tmod g != 0) = false := by simp [hz1]
    obtain ⟨P, hP⟩ : ∃ P, a * pt = P := ⟨_, rfl⟩
    have P0 : 1 ≤ P := by rw [← hP]; exact mul_pos1 ha a4
    by_cases hl : P ≤ 4611686018427387904
    · have hsf : (stepF x a r m).2.1 = P ∧ (stepF x a r m).2.2 = 0 := by
        unfold stepF
        rw [a7, hpt, hP, if_neg (by omega), if_neg (by omega)]
        exact ⟨rfl, rfl⟩
      obtain ⟨n1, n2, n3⟩ := H9.out hz (by omega)
      have HE : Hid (s1 = x + (ap / g * (b % pt) % pt) * a ∧ s2 = P ∧ s3 = 0) := by
        rw [n1, ← hsf.1, ← hsf.2, HSF.out]
        exact ⟨rfl, rfl, rfl⟩
      have hc0 : 0 ≤ ap / g := Int.ediv_nonneg r0 (by omega)
      have hc1 : ap / g ≤ ap := Int.ediv_le_self _ r0
      have hq : IntKind.i64.wrap (ap.tdiv g) = ap / g := IntWalk.i64_quo ap g ⟨r0, by omega, by omega⟩
      obtain ⟨c, hc⟩ : ∃ c, ap / g = c := ⟨_, rfl⟩
      rw [hc] at hc0 hc1 hq n2 n3 HE
      have hb0 := Int.emod_nonneg b (show pt ≠ 0 by omega)
      have hb1 := Int.emod_lt_of_pos b (show 0 < pt by omega)
      obtain ⟨bp, hbp⟩ : ∃ bp, b % pt = bp := ⟨_, rfl⟩
      rw [hbp] at hb0 hb1 n2 n3 HE
      have ht0 := Int.emod_nonneg (c * bp) (show pt ≠ 0 by omega)
      have ht1 := Int.emod_lt_of_pos (c * bp) (show 0 < pt by omega)
      have H40 : Hid (∀ w, Calls Try.prog 46 #[.int .i64 c, .int .i64 bp, .int .i64 pt] w fun e w' => e = .returned (.int .i64 (c * bp % pt)) ∧ Hid (Up w w')) := fun w => (t46 c bp pt hc0 (by omega) hb0 (by omega) a4 (by omega) w).mono fun e w' h => ⟨h.1, by obtain ⟨_, n, rfl⟩ := h; exact Up.drewN _ _⟩
      obtain ⟨t, ht⟩ : ∃ t, c * bp % pt = t := ⟨_, rfl⟩
      rw [ht] at ht0 ht1 n2 n3 H40 HE
      obtain ⟨ta, hta⟩ : ∃ ta, t * a = ta := ⟨_, rfl⟩
      rw [hta] at n2 n3 HE
      have hP1 : P / 18446744073709551616 = 0 := by omega
      have hP2 : P % 18446744073709551616 = P := by omega
      clear hsf n1 H8 H9 HA ht hc
      go_wp2_with (first
        | (go_at_call 43; (with_reducible refine (t43 (r - x) m (by omega) _).mono ?_); rintro e w5 ⟨rfl, rfl⟩; rw [hap])
        | (go_at_call 45; (with_reducible refine (t45 a pt (by omega) (by omega) _).mono ?_); rintro e w5 ⟨rfl, rfl⟩; rw [hP, hP1, hP2]))
      go_region_held3 (fun w' => Hid (K2 w g1 g2 g3 w' x a r m) ∧ w'.cell? ⟨g1, 0, none⟩ = some (.int .i64 x) ∧ w'.cell? ⟨g1, 1, none⟩ = some (.int .i64 a) ∧ w'.cell? ⟨g2, 0, none⟩ = some (.int .i64 r) ∧ w'.cell? ⟨g2, 1, none⟩ = some (.int .i64 m))
        (first | (exact keep4 ⟨HK4, d0, d1, d2, d3⟩ (Up.drewN _ 1)) | (exact keep4 ‹_› HU.out) | (exact keep4 ‹_› (Up.drewN _ 1)) | go_keep)
        (first | (go_at_call 43; (with_reducible refine (t43 b pt (by omega) _).mono ?_); rintro e w5 ⟨rfl, rfl⟩; rw [hbp]) | (go_at_call 46; (with_reducible refine (H40.out _).mono ?_); rintro e w6 ⟨rfl, HU⟩))
      have HSS := ‹Hid (K2 w g1 g2 g3 w6 x a r m) ∧ _›
      obtain ⟨HK6, f0, f1, f2, f3⟩ := HSS
      clear d0 d1 d2 d3
      go_wp2_with (refine wpList_store2 (r := x + ta) (m := P) HK6.out.2.2.2.1 rfl _ _ rfl rfl rfl ?_)
      exact bodyPost_ret (results_pair Try.results30 _ _ g3 (x + ta) P rfl (HK6.out.2.2.2.1.put _ _)) rfl ⟨by rw [HE.out.1, HE.out.2.1, HE.out.2.2]; rfl, HK6.out.1.set2 HK6.out.2.2.2.2 _ _⟩
    · have HE : Hid (s1 = 0 ∧ s2 = 0 ∧ s3 = 3) := by
        have := HSF.out
        unfold stepF at this
        rw [a7, hpt, hP, if_neg (by omega), if_pos (by omega)] at this
        simp only [Prod.mk.injEq] at this
        exact ⟨this.1.symm, this.2.1.symm, this.2.2.symm⟩
      have hP3 : P ≤ 5070602400912917605986812821504 := by
        rw [← hP]
        exact Int.le_trans (Int.mul_le_mul ha2 (show pt ≤ 1099511627776 by omega) (by omega) (by omega)) (by omega)
      obtain ⟨hi, hhi⟩ : ∃ hi, P / 18446744073709551616 = hi := ⟨_, rfl⟩
      obtain ⟨lo, hlo⟩ : ∃ lo, P % 18446744073709551616 = lo := ⟨_, rfl⟩
      have hor : (hi != 0 || decide (4611686018427387904 < lo)) = true := by
        simp only [Bool.or_eq_true, bne_iff_ne, decide_eq_true_eq]; omega
      clear H8 H9 HA
      by_cases hh : hi = 0
      · have hb1 : (hi != 0) = false := by simp [hh]
        have hb2 : 4611686018427387904 < lo := by omega
        go_wp2_with (first
          | (go_at_call 43; (with_reducible refine (t43 (r - x) m (by omega) _).mono ?_); rintro e w5 ⟨rfl, rfl⟩; rw [hap])
          | (go_at_call 45; (with_reducible refine (t45 a pt (by omega) (by omega) _).mono ?_); rintro e w5 ⟨rfl, rfl⟩; rw [hP, hhi, hlo])
          | (refine wpList_store2 (r := 0) (m := 0) HK4.out.2.2.2.1 rfl _ _ rfl rfl rfl ?_))
        exact bodyPost_ret (results_pair Try.results30 _ _ g3 0 0 rfl (HK4.out.2.2.2.1.put _ _)) rfl ⟨by rw [HE.out.1, HE.out.2.1, HE.out.2.2]; rfl, HK4.out.1.set2 HK4.out.2.2.2.2 _ _⟩
      · have hb1 : (hi != 0) = true := by simp [hh]
        go_wp2_with (first
          | (go_at_call 43; (with_reducible refine (t43 (r - x) m (by omega) _).mono ?_); rintro e w5 ⟨rfl, rfl⟩; rw [hap])
          | (go_at_call 45; (with_reducible refine (t45 a pt (by omega) (by omega) _).mono ?_); rintro e w5 ⟨rfl, rfl⟩; rw [hP, hhi, hlo])
          | (refine wpList_store2 (r := 0) (m := 0) HK4.out.2.2.2.1 rfl _ _ rfl rfl rfl ?_))
        exact bodyPost_ret (results_pair Try.results30 _ _ g3 0 0 rfl (HK4.out.2.2.2.1.put _ _)) rfl ⟨by rw [HE.out.1, HE.out.2.1, HE.out.2.2]; rfl, HK4.out.1.set2 HK4.out.2.2.2.2 _ _⟩
  · have hz1 : ¬ ap.tmod g = 0 := fun h => hz (H8.out.1 h)
    have hzb : (ap.tmod g != 0) = true := by simp [hz1]
    have htm : ap.tmod g = ap % g := Int.tmod_eq_emod_of_nonneg r0
    have hzb2 : (ap % g != 0) = true := by rw [← htm]; exact hzb
    have HE : Hid (s1 = 0 ∧ s2 = 0 ∧ s3 = 100) := by
      have := HSF.out
      unfold stepF at this
      rw [a7, if_pos (by omega)] at this
      simp only [Prod.mk.injEq] at this
      exact ⟨this.1.symm, this.2.1.symm, this.2.2.symm⟩
    clear H8 H9 HA hz htm
    go_wp2_with (first
      | (go_at_call 43; (with_reducible refine (t43 (r - x) m (by omega) _).mono ?_); rintro e w5 ⟨rfl, rfl⟩; rw [hap])
      | (refine wpList_store2 (r := 0) (m := 0) HK4.out.2.2.2.1 rfl _ _ rfl rfl rfl ?_))
    exact bodyPost_ret (results_pair Try.results30 _ _ g3 0 0 rfl (HK4.out.2.2.2.1.put _ _)) rfl ⟨by rw [HE.out.1, HE.out.2.1, HE.out.2.2]; rfl, HK4.out.1.set2 HK4.out.2.2.2.2 _ _⟩
end Go.Proofs.Ytijfmaepoamkgab.Fo

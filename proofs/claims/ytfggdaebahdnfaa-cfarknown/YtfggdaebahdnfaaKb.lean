/- Spots: rows of them; Map, the program's. -/
import Derived.Test.YtfggdaebahdnfaaKa
namespace Go.Proofs.Ytfggdaebahdnfaa
open Go.ChangeShapes Go.WideShapes Go.ChangeAt Go.RowKit Go.Fl Go.Sort
attribute [local go_sem] run_store_float run_store_func call35 call46 run_neg fold_eq fold_ne fold_lt fold_gt abs_eq

/-- A spot: its bin, its gate, its power. -/
abbrev Spt := Nat × Nat × Nat
def spC (s : Spt) : List Value := [.int .i64 s.1, .int .i64 s.2.1, .float .f64 s.2.2]
theorem spC_len (L : List Spt) : (L.flatMap spC).length = L.length * 3 := by
  induction L with
  | nil => rfl
  | cons a l ih => rw [List.flatMap_cons, List.length_append, ih]; simp [spC]; omega
/-- A row of spots of one's own. -/
def SO (b : Nat) (w : World) (v : Value) (L : List Spt) : Prop := w.ownsRow b 44 3 v L.length (L.flatMap spC)
theorem SO.up {b : Nat} {w w' : World} {v : Value} {L : List Spt} (h : SO b w v L) (hu : Up w w') : SO b w' v L := owns_up h hu
theorem SO.base {b b' : Nat} {w : World} {v : Value} {L : List Spt} (h : SO b w v L) (hb : b' ≤ b) : SO b' w v L := by
  obtain ⟨h1, h2⟩ := h
  refine ⟨h1, ?_⟩
  rcases h2 with h2 | ⟨g, cap, cur, rfl, k2, k3⟩
  · exact Or.inl h2
  · exact Or.inr ⟨g, cap, cur, rfl, Nat.le_trans hb k2, k3⟩
theorem SO.nil (b : Nat) (w : World) : SO b w (.slice none 0 0) [] := World.ownsRow_nil _ _ _ _
set_option maxRecDepth 20000 in
theorem info44 : (Try.prog.info? 44).map (fun i => (i.zero, i.size, i.bytes)) = some (some (.agg #[.int .i64 0, .int .i64 0, .float .f64 0]), 3, 24) := by kernel_rfl
/-- What is found in the first gates of a row; in the first rows of a map. -/
def spRow (F : Array Nat → Nat → Bool) (i : Nat) (d : Array Nat) : Nat → List Spt
  | 0 => []
  | k + 1 => spRow F i d k ++ (if F d k = true then [(i, k, d[k]!)] else [])
def spAll (F : Array Nat → Nat → Bool) (D : Nat → Array Nat) : Nat → List Spt
  | 0 => []
  | i + 1 => spAll F D i ++ spRow F i (D i) (D i).size
theorem spRow_mono (F : Array Nat → Nat → Bool) (i : Nat) (d : Array Nat) {k n : Nat} (h : k ≤ n) : (spRow F i d k).length ≤ (spRow F i d n).length := by
  induction n with
  | zero => obtain rfl : k = 0 := by omega
            exact Nat.le_refl _
  | succ n ih =>
    rcases Nat.lt_or_ge k (n + 1) with q | q
    · have := ih (by omega)
      show _ ≤ (spRow F i d n ++ _).length
      rw [List.length_append]; omega
    · obtain rfl : k = n + 1 := by omega
      exact Nat.le_refl _
theorem spAll_mono (F : Array Nat → Nat → Bool) (D : Nat → Array Nat) {i n : Nat} (h : i ≤ n) : (spAll F D i).length ≤ (spAll F D n).length := by
  induction n with
  | zero => obtain rfl : i = 0 := by omega
            exact Nat.le_refl _
  | succ n ih =>
    rcases Nat.lt_or_ge i (n + 1) with q | q
    · have := ih (by omega)
      show _ ≤ (spAll F D n ++ _).length
      rw [List.length_append]; omega
    · obtain rfl : i = n + 1 := by omega
      exact Nat.le_refl _
theorem sp_most (F : Array Nat → Nat → Bool) (D : Nat → Array Nat) {i k n : Nat} (hi : i < n) (hk : k < (D i).size) (hF : F (D i) k = true) (hl : (spAll F D i ++ spRow F i (D i) k).length = 4096) : 4096 < (spAll F D n).length := by
  have h1 := spAll_mono F D (show i + 1 ≤ n by omega)
  have h2 := spRow_mono F i (D i) (show k + 1 ≤ (D i).size by omega)
  have h3 : (spAll F D (i + 1)).length = (spAll F D i).length + (spRow F i (D i) (D i).size).length := by
    show (spAll F D i ++ _).length = _
    rw [List.length_append]
  have h4 : (spRow F i (D i) (k + 1)).length = (spRow F i (D i) k).length + 1 := by
    show (spRow F i (D i) k ++ _).length = _
    rw [if_pos hF, List.length_append]; rfl
  rw [List.length_append] at hl
  omega
/-- The error of a map; its spots. -/
def mpE (F : Array Nat → Nat → Bool) (n : Nat) (D : Nat → Array Nat) (g t m : Int) (x : Nat) : Int := if mapE n D ≠ 0 then mapE n D else if refE g t m x ≠ 0 then refE g t m x else if 4096 < (spAll F D n).length then 3 else 0
def mpL (F : Array Nat → Nat → Bool) (n : Nat) (D : Nat → Array Nat) (g t m : Int) (x : Nat) : List Spt := if mpE F n D g t m x = 0 then spAll F D n else []
def MR (w : World) (F : Array Nat → Nat → Bool) (n : Nat) (D : Nat → Array Nat) (g t m : Int) (x : Nat) (e : Ending) (w' : World) : Prop := ∃ p c, e = .returned (.tuple #[.slice p (mpL F n D g t m x).length c, .int .i64 (mpE F n D g t m x)]) ∧ Hid (SO w.heap.size w' (.slice p (mpL F n D g t m x).length c) (mpL F n D g t m x)) ∧ Hid (Up w w')
theorem MR.bad {w w' : World} {F : Array Nat → Nat → Bool} {n : Nat} {D : Nat → Array Nat} {g t m : Int} {x : Nat} {c : Int} (h : mpE F n D g t m x = c) (hc : c ≠ 0) (hu : Up w w') : MR w F n D g t m x (.returned (.tuple #[.slice none 0 0, .int .i64 c])) w' := by
  have e : mpL F n D g t m x = [] := by unfold mpL; rw [h, if_neg hc]
  refine ⟨none, 0, by rw [e, h]; rfl, ?_, hu⟩
  rw [e]; exact SO.nil _ _
theorem MR.ok {w w' : World} {F : Array Nat → Nat → Bool} {n : Nat} {D : Nat → Array Nat} {g t m : Int} {x : Nat} {p : Option Addr} {N c : Nat} {L : List Spt} (h1 : mapE n D = 0) (h2 : refE g t m x = 0) (hL : L = spAll F D n) (hN : L.length = N) (hl : N ≤ 4096) (ho : SO w.heap.size w' (.slice p N c) L) (hu : Up w w') : MR w F n D g t m x (.returned (.tuple #[.slice p N c, .int .i64 0])) w' := by
  subst hL
  have h : mpE F n D g t m x = 0 := by
    unfold mpE
    rw [if_neg (by rw [h1]; simp), if_neg (by rw [h2]; simp), if_neg (by omega)]
  have e : mpL F n D g t m x = spAll F D n := by unfold mpL; rw [if_pos h]
  exact ⟨p, c, by rw [e, h, hN], by rw [e, hN]; exact ho, hu⟩
/-- A row of spots gets one more. -/
theorem so_push {w wr w1 : World} {v v' : Value} {m b : Nat} {L : List Spt} {s : Spt} (hb : w.heap.size ≤ b) (hl : L.length = m) (hown : wr.ownsRow b 44 3 v m (L.flatMap spC)) (hbel : Up w wr) {c : Array Value} {t : TypeId}
    (hown' : w1.ownsRow b 44 3 v' (m + 1) (L.flatMap spC ++ [.int .i64 s.1, .int .i64 s.2.1, .float .f64 s.2.2])) (hg : (wr.alloc (.cells c t)).grownBy w1 v.ownBlock) :
    SO b w1 v' (L ++ [s]) ∧ Up w w1 := by
  refine ⟨?_, ?_⟩
  · show w1.ownsRow _ _ _ _ _ _
    rw [List.flatMap_append, List.length_append, hl]
    exact hown'
  · have hs : w.heap.size ≤ wr.heap.size := RowKit.Below.size hbel
    exact (RowKit.Below.alloc hbel hs _).grown hg (by simp; omega) (fun j hj => Nat.le_trans hb (hown.lt j hj).1)
theorem three_new (w : World) (a b c : Value) (t : TypeId) : ∀ (j : Nat) (u : Value), [a, b, c][j]? = some u → (w.alloc (.cells #[a, b, c] t)).cell? ((⟨w.heap.size, 0, none⟩ : Addr).add j) = some u := by
  intro j u hj
  have e : (⟨w.heap.size, 0, none⟩ : Addr).add j = ⟨w.heap.size, j, none⟩ := by
    unfold Addr.add
    split
    · rename_i h; rw [h]
    · simp
  rw [e, World.cell?_alloc_at _ _ _ _ rfl]
  simpa using hj
theorem three_one {a b c : Value} (ha : a.oneCell' = true) (hb : b.oneCell' = true) (hc : c.oneCell' = true) : ∀ u ∈ [a, b, c], u.oneCell' = true := by
  intro u hu
  simp at hu
  rcases hu with rfl | rfl | rfl
  · exact ha
  · exact hb
  · exact hc
set_option maxHeartbeats 1000000 in
theorem t17bad {w : World} {p : Option Addr} {n cap x : Nat} {D : Nat → Array Nat} {way : Int} {F : Array Nat → Nat → Bool} (g t m : Int) (h1 : -128 ≤ way) (h2 : way ≤ 127) (h : MV w p n cap D) (hE : mapE n D ≠ 0 ∨ refE g t m x ≠ 0) :
    Calls Try.prog 17 #[.slice p n cap, .int .i8 way, .int .i64 g, .int .i64 t, .int .i64 m, .float .f64 x] w (MR w F n D g t m x) := by
  have H : Hid (MV w p n cap D) := h
  clear h
  obtain ⟨c1, hc1⟩ : ∃ c, mapE n D = c := ⟨_, rfl⟩
  obtain ⟨c2, hc2⟩ : ∃ c, refE g t m x = c := ⟨_, rfl⟩
  have C40 : Hid (∀ W, Up w W → Calls Try.prog 40 #[.slice p n cap] W fun e w' => e = .returned (.int .i64 c1) ∧ w' = W) := fun W hu => hc1 ▸ t40 (H.out.up hu)
  have C37 : Hid (∀ f W, Calls Try.prog 37 #[.agg #[f, .int .i64 g, .int .i64 t, .int .i64 m], .float .f64 x] W fun e w' => e = .returned (.int .i64 c2) ∧ Hid (Up W w')) := fun f W => hc2 ▸ t37 f g t m x W
  have HC : Hid (mapE n D = c1 ∧ refE g t m x = c2) := ⟨hc1, hc2⟩
  rw [hc1, hc2] at hE
  clear hc1 hc2
  by_cases q1 : c1 = 0
  · have q2 : c2 ≠ 0 := by omega
    have b2 : (c2 == 0) = false := by rw [beq_eq_false_iff_ne]; exact q2
    subst q1
    clear hE
    go_enter Try.func17, Try.ntmps17
    go_wp2_with (first
      | (go_at_call 30; (with_reducible refine (chosen30 h1 h2 _).mono ?_); rintro e w1 ⟨fk, fa, fb, rfl, HL, HU⟩)
      | (go_at_call 40; (with_reducible refine (C40.out _ (HU.out.trans (Up.alloc _ _))).mono ?_); rintro e w' ⟨rfl, hw⟩; subst w')
      | (go_at_call 37; (with_reducible refine (C37.out _ _).mono ?_); rintro e w2 ⟨rfl, HU2⟩))
    go_ret2
    refine MR.bad ?_ q2 ((HU.out.trans (Up.alloc _ _)).trans HU2.out)
    unfold mpE; rw [if_neg (by rw [HC.out.1]; simp), if_pos (by rw [HC.out.2]; exact q2), HC.out.2]
  · have b1 : (c1 == 0) = false := by rw [beq_eq_false_iff_ne]; exact q1
    clear hE
    go_enter Try.func17, Try.ntmps17
    go_wp2_with (first
      | (go_at_call 30; (with_reducible refine (chosen30 h1 h2 _).mono ?_); rintro e w1 ⟨fk, fa, fb, rfl, HL, HU⟩)
      | (go_at_call 40; (with_reducible refine (C40.out _ (HU.out.trans (Up.alloc _ _))).mono ?_); rintro e w' ⟨rfl, hw⟩; subst w'))
    go_ret2
    refine MR.bad ?_ q1 (HU.out.trans (Up.alloc _ _))
    unfold mpE; rw [if_pos (by rw [HC.out.1]; exact q1), HC.out.1]
theorem mapE_small {n : Nat} {D : Nat → Array Nat} (h : mapE n D = 0) : n ≤ 256 ∧ ∀ i, i < n → (D i).size ≤ 16384 := by
  unfold mapE at h
  by_cases q : largeF n D = true
  · rw [if_pos q] at h; cases h
  · have q2 : largeF n D = false := by simpa using q
    unfold largeF at q2
    simp only [Bool.or_eq_false_iff, decide_eq_false_iff_not] at q2
    exact ⟨by omega, fun i hi => longF_le q2.1.2 hi⟩
end Go.Proofs.Ytfggdaebahdnfaa

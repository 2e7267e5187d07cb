/- A map: what it is in memory; New, Level. -/
import Derived.Test.YtgalgnopjcpocaaQa
import Derived.Test.YtgalgnopjcpocaaRh
namespace Go.Proofs.Ytgalgnopjcpocaa
open Go.ChangeShapes Go.WideShapes Go.ChangeAt Go.RowKit Go.Fl Ieee
attribute [local go_sem] run_store_float call20 call33 run_neg fold_eq fold_ne fold_lt fold_gt abs_eq

/-- But for two blocks nothing has turned. -/
structure Two (a x : Nat) (w w' : World) : Prop where
  os : w'.os = w.os
  tape : w'.tape = w.tape
  output : w'.output = w.output
  size : w.heap.size ≤ w'.heap.size
  block : ∀ k, k < w.heap.size → k ≠ a → k ≠ x → w'.heap[k]? = w.heap[k]?
theorem Two.refl (a x : Nat) (w : World) : Two a x w w := ⟨rfl, rfl, rfl, Nat.le_refl _, fun _ _ _ _ => rfl⟩
theorem Two.trans {a x : Nat} {u v w : World} (h : Two a x u v) (k : Two a x v w) : Two a x u w :=
  ⟨k.os.trans h.os, k.tape.trans h.tape, k.output.trans h.output, Nat.le_trans h.size k.size, fun j hj h1 h2 => (k.block j (Nat.lt_of_lt_of_le hj h.size) h1 h2).trans (h.block j hj h1 h2)⟩
theorem Two.of_a {a x : Nat} {w w' : World} (h : But a w w') : Two a x w w' := ⟨h.1, h.2, h.3, h.4, fun k hk h1 _ => h.5 k hk (fun e => h1 (by cases e; rfl))⟩
theorem Two.of_x {a x : Nat} {w w' : World} (h : But x w w') : Two a x w w' := ⟨h.1, h.2, h.3, h.4, fun k hk _ h1 => h.5 k hk (fun e => h1 (by cases e; rfl))⟩
theorem Two.of_up {a x : Nat} {w w' : World} (h : Up w w') : Two a x w w' := Two.of_a (But.of_up h)
/-- A block that was made since may be written. -/
theorem Two.over {a x g : Nat} {w w1 w2 : World} (h : Two a x w w1) (k : But g w1 w2) (hg : w.heap.size ≤ g) : Two a x w w2 :=
  ⟨k.1.trans h.os, k.2.trans h.tape, k.3.trans h.output, Nat.le_trans h.size k.4, fun j hj h1 h2 => (k.5 j (Nat.lt_of_lt_of_le hj h.size) (fun e => by cases e; omega)).trans (h.block j hj h1 h2)⟩
theorem Two.grown {a x : Nat} {row : Option Nat} {w w1 w2 : World} (h : Two a x w w1) (k : w1.grownBy w2 row) (hg : ∀ j, row = some j → w.heap.size ≤ j) : Two a x w w2 :=
  ⟨k.1.trans h.os, k.2.trans h.tape, k.3.trans h.output, Nat.le_trans h.size k.4, fun j hj h1 h2 => (k.5 j (Nat.lt_of_lt_of_le hj h.size) (fun e => by have := hg j e.symm; omega)).trans (h.block j hj h1 h2)⟩
theorem Two.up {a x : Nat} {w0 w w' : World} (h : Two a x w w') (hu : Up w0 w) (ha : w0.heap.size ≤ a) (hx : w0.heap.size ≤ x) : Up w0 w' :=
  ⟨h.os.trans hu.os, h.tape.trans hu.tape, h.output.trans hu.output, Nat.le_trans hu.size h.size, fun k hk => (h.block k (Nat.lt_of_lt_of_le hk hu.size) (by omega) (by omega)).trans (hu.block k hk)⟩
theorem Two.cell {a x : Nat} {w w' : World} {b o : Nat} {v : Value} (h : Two a x w w') (ha : b ≠ a) (hx : b ≠ x) (hc : w.cell? ⟨b, o, none⟩ = some v) : w'.cell? ⟨b, o, none⟩ = some v := by
  rw [World.cell?_of_block (w := w) (h.block b (World.block_lt_of_cell? w _ hc) ha hx)]; exact hc
theorem OR.two {α : Type} {enc : α → Value} {t : TypeId} {b a x : Nat} {w w' : World} {v : Value} {d : List α} (h : OR enc t b w v d) (hb : Two a x w w') (ha : v.ownBlock ≠ some a) (hx : v.ownBlock ≠ some x) : OR enc t b w' v d := by
  have hl := h.lt
  obtain ⟨h1, h2⟩ := h
  refine ⟨h1, ?_⟩
  rcases h2 with h2 | ⟨g0, cap0, cur, rfl, k2, k3, k4⟩
  · exact Or.inl h2
  · refine Or.inr ⟨g0, cap0, cur, rfl, k2, ?_, k4⟩
    rw [hb.block g0 (hl g0 rfl).2 (by simpa [Value.ownBlock] using ha) (by simpa [Value.ownBlock] using hx)]; exact k3
/-- A map: its levels stand at L, itself at M; how many, its share, was it fed, what the levels are. -/
structure MP (lo : Nat) (w : World) (M L n s : Nat) (fed : Bool) (d : List Nat) : Prop where
  c0 : w.cell? ⟨M, 0, none⟩ = some (.slice (some ⟨L, 0, none⟩) n n)
  c1 : w.cell? ⟨M, 1, none⟩ = some (.float .f64 s)
  c2 : w.cell? ⟨M, 2, none⟩ = some (.bool fed)
  fz : w.frozen? ⟨M, 2, none⟩ = false
  row : FO lo w (.slice (some ⟨L, 0, none⟩) n n) d
  ne : M ≠ L
  lo : lo ≤ M
theorem MP.lt {lo : Nat} {w : World} {M L n s : Nat} {fed : Bool} {d : List Nat} (h : MP lo w M L n s fed d) : M < w.heap.size := World.block_lt_of_cell? w _ h.c0
theorem MP.lt2 {lo : Nat} {w : World} {M L n s : Nat} {fed : Bool} {d : List Nat} (h : MP lo w M L n s fed d) : lo ≤ L ∧ L < w.heap.size := OR.at_ h.row
theorem MP.len {lo : Nat} {w : World} {M L n s : Nat} {fed : Bool} {d : List Nat} (h : MP lo w M L n s fed d) : d.length = n := OR.len h.row
theorem MP.two {lo a x : Nat} {w w' : World} {M L n s : Nat} {fed : Bool} {d : List Nat} (h : MP lo w M L n s fed d) (hb : Two a x w w') (h1 : M ≠ a) (h2 : M ≠ x) (h3 : L ≠ a) (h4 : L ≠ x) : MP lo w' M L n s fed d :=
  ⟨hb.cell h1 h2 h.c0, hb.cell h1 h2 h.c1, hb.cell h1 h2 h.c2, (World.frozen?_of_block (w := w) (a := ⟨M, 2, none⟩) (hb.block M h.lt h1 h2)).trans h.fz, h.row.two hb (by simpa [Value.ownBlock] using h3) (by simpa [Value.ownBlock] using h4), h.ne, h.lo⟩
theorem MP.up {lo : Nat} {w w' : World} {M L n s : Nat} {fed : Bool} {d : List Nat} (h : MP lo w M L n s fed d) (hu : Up w w') : MP lo w' M L n s fed d :=
  ⟨cell_up h.c0 hu, cell_up h.c1 hu, cell_up h.c2 hu, (World.frozen?_of_block (w := w) (a := ⟨M, 2, none⟩) (hu.block M h.lt)).trans h.fz, OR.up h.row hu, h.ne, h.lo⟩
theorem MP.but {lo g : Nat} {w w' : World} {M L n s : Nat} {fed : Bool} {d : List Nat} (h : MP lo w M L n s fed d) (hb : But g w w') (h1 : M ≠ g) (h3 : L ≠ g) : MP lo w' M L n s fed d := h.two (x := g) (Two.of_a hb) h1 h1 h3 h3
theorem MP.base {lo lo' : Nat} {w : World} {M L n s : Nat} {fed : Bool} {d : List Nat} (h : MP lo w M L n s fed d) (hb : lo' ≤ lo) : MP lo' w M L n s fed d := ⟨h.c0, h.c1, h.c2, h.fz, h.row.base hb, h.ne, Nat.le_trans hb h.lo⟩
/-- A level is laid. -/
theorem MP.put {lo : Nat} {w : World} {M L n s : Nat} {fed : Bool} {d : List Nat} (h : MP lo w M L n s fed d) (k r : Nat) : MP lo (w.setCell ⟨L, k, none⟩ (.float .f64 r)) M L n s fed (d.set k r) ∧ But L w (w.setCell ⟨L, k, none⟩ (.float .f64 r)) := by
  obtain ⟨s1, s2⟩ := OR.put h.row k r
  have e := World.frozen?_of_block (w := w) (a := ⟨M, 2, none⟩) (s2.block M h.lt (by simpa using h.ne))
  exact ⟨⟨s2.cell h.ne h.c0, s2.cell h.ne h.c1, s2.cell h.ne h.c2, e.trans h.fz, s1, h.ne, h.lo⟩, s2⟩
/-- May there be such a map? -/
def shareF (s : Option Nat) : Bool := (gtF s (ab 0) || eqF s (ab 0)) && (ltF s (ab 4607182418800017408) || eqF s (ab 4607182418800017408))
theorem share_not {s : Option Nat} {b : Bool} (h : shareF s = b) : (!gtF s (ab 0) && !eqF s (ab 0) || !ltF s (ab 4607182418800017408) && !eqF s (ab 4607182418800017408)) = !b := by
  rw [← h, shareF]
  cases gtF s (ab 0) <;> cases eqF s (ab 0) <;> cases ltF s (ab 4607182418800017408) <;> cases eqF s (ab 4607182418800017408) <;> rfl
theorem share_parts {s : Option Nat} (h : shareF s = true) : (gtF s (ab 0) || eqF s (ab 0)) = true ∧ (ltF s (ab 4607182418800017408) || eqF s (ab 4607182418800017408)) = true ∧ (gtF s (ab 0) = true ∨ eqF s (ab 0) = true) ∧ (ltF s (ab 4607182418800017408) = true ∨ eqF s (ab 4607182418800017408) = true) := by
  rw [shareF, Bool.and_eq_true] at h
  exact ⟨h.1, h.2, by simpa using h.1, by simpa using h.2⟩
def newE (n : Int) (s : Option Nat) : Int := if n < 1 then 2 else if shareF s = false then 2 else if 16384 < n then 3 else 0
theorem made_float (n : Nat) : (madeCells (Value.float .f64 0).cells (n * 1)).toList = (List.replicate n 0).map (Value.float .f64) := by
  rw [Nat.mul_one]
  show (madeCells #[Value.float .f64 0] n).toList = _
  rw [toList_madeCells_one]; simp
/-- What New answers. -/
def NK (w : World) (n s : Nat) (e : Ending) (w' : World) : Prop := ∃ M L, e = .returned (.tuple #[.pointer (some ⟨M, 0, none⟩), .int .i64 0]) ∧ Hid (MP w.heap.size w' M L n s false (List.replicate n 0)) ∧ Hid (Up w w')
def NE (w : World) (c : Int) (e : Ending) (w' : World) : Prop := e = .returned (.tuple #[.pointer none, .int .i64 c]) ∧ w' = w
theorem MP.new {w w1 : World} {N s : Nat} {t : TypeId} (hown : w1.ownsRow w.heap.size 26 1 (.slice (some ⟨w.heap.size, 0, none⟩) N N) N (madeCells (Value.float .f64 0).cells (N * 1)).toList) (hgr : w.grownBy w1 none) : MP w.heap.size (w1.alloc (.cells #[.slice (some ⟨w.heap.size, 0, none⟩) N N, .float .f64 s, .bool false] t)) w1.heap.size w.heap.size N s false (List.replicate N 0) ∧ Up w (w1.alloc (.cells #[.slice (some ⟨w.heap.size, 0, none⟩) N N, .float .f64 s, .bool false] t)) := by
  have hu : Up w w1 := Below.grown (Below.refl _ _) hgr (Nat.le_refl _) (fun j hj => by cases hj)
  have e := heap_alloc_last w1 (.cells #[.slice (some ⟨w.heap.size, 0, none⟩) N N, .float .f64 s, .bool false] t)
  have hl : w.heap.size < w1.heap.size := (hown.lt w.heap.size rfl).2
  have ho : FO w.heap.size w1 (.slice (some ⟨w.heap.size, 0, none⟩) N N) (List.replicate N 0) := by
    rw [made_float] at hown; show OR _ _ _ _ _ _; unfold OR; simpa using hown
  refine ⟨⟨?_, ?_, ?_, ?_, OR.up ho (Up.alloc _ _), by omega, by omega⟩, hu.trans (Up.alloc _ _)⟩
  · unfold World.cell?; simp only [e]; rfl
  · unfold World.cell?; simp only [e]; rfl
  · unfold World.cell?; simp only [e]; rfl
  · unfold World.frozen?; simp only [e]; rfl
set_option maxRecDepth 20000 in
theorem t12 (N : Nat) (s : Nat) (w : World) (h1 : 1 ≤ N) (h2 : N ≤ 16384) (hs : shareF (ab s) = true) : Calls Try.prog 12 #[.int .i64 N, .float .f64 s] w (NK w N s) := by
  obtain ⟨i0, hi, hz0, hz1, hz2⟩ := info_parts info26
  have hq := share_not hs
  obtain ⟨hA, hB, hA', hB'⟩ := share_parts hs
  clear hs
  have z1 : ¬ (N : Int) < 1 := by omega
  have z2 : ¬ (16384 : Int) < (N : Int) := by omega
  go_enter Try.func12, Try.ntmps12
  go_wp2_with (refine wpList_make_full _ rfl _ _ 28 rfl w.heap.size 26 i0 (.float .f64 0) 1 Try.underlying28 hi hz0 hz1 .i64 .i64 _ _ N rfl rfl rfl rfl (by rw [hz2]; omega) (by unfold maxLen; omega) (Nat.le_refl _) ?_; intro w1 hown hgr)
  have R := MP.new (s := s) (t := 72) hown hgr
  go_ret2
  exact ⟨_, _, rfl, R.1, R.2⟩
set_option maxRecDepth 20000 in
theorem t12e {n : Int} {s : Nat} {c : Int} (w : World) (hc : newE n (ab s) = c) (h0 : c ≠ 0) : Calls Try.prog 12 #[.int .i64 n, .float .f64 s] w (NE w c) := by
  unfold newE at hc
  by_cases h1 : n < 1
  · rw [if_pos h1] at hc
    subst hc
    go_enter Try.func12, Try.ntmps12
    go_wp2
    go_ret2
    exact ⟨rfl, rfl⟩
  · rw [if_neg h1] at hc
    cases hs : shareF (ab s)
    · rw [if_pos hs] at hc
      subst hc
      have hq := share_not hs
      rw [shareF] at hs
      cases hA : (gtF (ab s) (ab 0) || eqF (ab s) (ab 0))
      · have hA2 := hA
        rw [Bool.or_eq_false_iff] at hA2
        obtain ⟨g2, g3⟩ := hA2
        clear hs
        go_enter Try.func12, Try.ntmps12
        go_wp2
        go_ret2
        exact ⟨rfl, rfl⟩
      · rw [hA, Bool.true_and] at hs
        have hB2 := hs
        rw [Bool.or_eq_false_iff] at hB2
        obtain ⟨g2, g3⟩ := hB2
        have hA2 := hA
        rw [Bool.or_eq_true] at hA2
        go_enter Try.func12, Try.ntmps12
        go_wp2
        go_ret2
        exact ⟨rfl, rfl⟩
    · rw [if_neg (by simp [hs])] at hc
      by_cases h2 : 16384 < n
      · rw [if_pos h2] at hc
        subst hc
        have hq := share_not hs
        obtain ⟨hA, hB, hA', hB'⟩ := share_parts hs
        clear hs
        go_enter Try.func12, Try.ntmps12
        go_wp2
        go_ret2
        exact ⟨rfl, rfl⟩
      · rw [if_neg h2] at hc
        exact absurd hc.symm h0
set_option maxRecDepth 20000 in
theorem t13 (N : Nat) (s : Nat) (w : World) (h1 : 1 ≤ N) (h2 : N ≤ 16384) (hs : shareF (ab s) = true) : Calls Try.prog 13 #[.int .i64 N, .float .f64 s] w (NK w N s) := by
  obtain ⟨i0, hi, hz0, hz1, hz2⟩ := info_parts info26
  have hq := share_not hs
  obtain ⟨hA, hB, hA', hB'⟩ := share_parts hs
  clear hs
  have z1 : ¬ (N : Int) < 1 := by omega
  have z2 : ¬ (16384 : Int) < (N : Int) := by omega
  go_enter Try.func13, Try.ntmps13
  go_wp2_with (refine wpList_make_full _ rfl _ _ 28 rfl w.heap.size 26 i0 (.float .f64 0) 1 Try.underlying28 hi hz0 hz1 .i64 .i64 _ _ N rfl rfl rfl rfl (by rw [hz2]; omega) (by unfold maxLen; omega) (Nat.le_refl _) ?_; intro w1 hown hgr)
  have R := MP.new (s := s) (t := 74) hown hgr
  go_ret2
  exact ⟨_, _, rfl, R.1, R.2⟩
set_option maxRecDepth 20000 in
theorem t13e {n : Int} {s : Nat} {c : Int} (w : World) (hc : newE n (ab s) = c) (h0 : c ≠ 0) : Calls Try.prog 13 #[.int .i64 n, .float .f64 s] w (NE w c) := by
  unfold newE at hc
  by_cases h1 : n < 1
  · rw [if_pos h1] at hc
    subst hc
    go_enter Try.func13, Try.ntmps13
    go_wp2
    go_ret2
    exact ⟨rfl, rfl⟩
  · rw [if_neg h1] at hc
    cases hs : shareF (ab s)
    · rw [if_pos hs] at hc
      subst hc
      have hq := share_not hs
      rw [shareF] at hs
      cases hA : (gtF (ab s) (ab 0) || eqF (ab s) (ab 0))
      · have hA2 := hA
        rw [Bool.or_eq_false_iff] at hA2
        obtain ⟨g2, g3⟩ := hA2
        clear hs
        go_enter Try.func13, Try.ntmps13
        go_wp2
        go_ret2
        exact ⟨rfl, rfl⟩
      · rw [hA, Bool.true_and] at hs
        have hB2 := hs
        rw [Bool.or_eq_false_iff] at hB2
        obtain ⟨g2, g3⟩ := hB2
        have hA2 := hA
        rw [Bool.or_eq_true] at hA2
        go_enter Try.func13, Try.ntmps13
        go_wp2
        go_ret2
        exact ⟨rfl, rfl⟩
    · rw [if_neg (by simp [hs])] at hc
      by_cases h2 : 16384 < n
      · rw [if_pos h2] at hc
        subst hc
        have hq := share_not hs
        obtain ⟨hA, hB, hA', hB'⟩ := share_parts hs
        clear hs
        go_enter Try.func13, Try.ntmps13
        go_wp2
        go_ret2
        exact ⟨rfl, rfl⟩
      · rw [if_neg h2] at hc
        exact absurd hc.symm h0
set_option maxRecDepth 20000 in
/-- No map: no level. -/
theorem t17n (k : Int) (w : World) : Calls Try.prog 17 #[.pointer none, .int .i64 k] w fun e w' => e = .returned (.tuple #[.float .f64 0, .bool false]) ∧ w' = w := by
  go_enter Try.func17, Try.ntmps17
  go_wp2
  go_ret2
  exact ⟨rfl, rfl⟩
set_option maxRecDepth 20000 in
theorem t17 {lo : Nat} {w : World} {M L n s : Nat} {d : List Nat} (h : MP lo w M L n s true d) {k : Nat} (hk : k < n) : Calls Try.prog 17 #[.pointer (some ⟨M, 0, none⟩), .int .i64 k] w fun e w' => e = .returned (.tuple #[.float .f64 d[k]!, .bool true]) ∧ w' = w := by
  have c0 := h.c0
  have c2 := h.c2
  have c3 := h.row.cell (i := k) (by rw [h.len]; exact hk)
  generalize d[k]! = x at *
  have z1 : (k : Int) < (n : Int) := by omega
  have z2 : ¬ (k : Int) < 0 := by omega
  have z3 : (0 : Int) ≤ (k : Int) := by omega
  clear h hk
  go_enter Try.func17, Try.ntmps17
  go_wp2
  go_ret2
  exact ⟨rfl, rfl⟩
set_option maxRecDepth 20000 in
theorem t17u {lo : Nat} {w : World} {M L n s : Nat} {d : List Nat} (h : MP lo w M L n s false d) (k : Int) : Calls Try.prog 17 #[.pointer (some ⟨M, 0, none⟩), .int .i64 k] w fun e w' => e = .returned (.tuple #[.float .f64 0, .bool false]) ∧ w' = w := by
  have c0 := h.c0
  have c2 := h.c2
  clear h
  go_enter Try.func17, Try.ntmps17
  go_wp2
  go_ret2
  exact ⟨rfl, rfl⟩
set_option maxRecDepth 20000 in
theorem t17o {lo : Nat} {w : World} {M L n s : Nat} {fed : Bool} {d : List Nat} (h : MP lo w M L n s fed d) {k : Int} (hk : k < 0 ∨ (n : Int) ≤ k) : Calls Try.prog 17 #[.pointer (some ⟨M, 0, none⟩), .int .i64 k] w fun e w' => e = .returned (.tuple #[.float .f64 0, .bool false]) ∧ w' = w := by
  have c0 := h.c0
  have c2 := h.c2
  clear h
  cases fed
  · go_enter Try.func17, Try.ntmps17
    go_wp2
    go_ret2
    exact ⟨rfl, rfl⟩
  · rcases hk with hk | hk
    · go_enter Try.func17, Try.ntmps17
      go_wp2
      go_ret2
      exact ⟨rfl, rfl⟩
    · have z : ¬ k < 0 := by omega
      go_enter Try.func17, Try.ntmps17
      go_wp2
      go_ret2
      exact ⟨rfl, rfl⟩
set_option maxRecDepth 20000 in
theorem t18 {lo : Nat} {w : World} {M L n s : Nat} {d : List Nat} (h : MP lo w M L n s true d) {k : Nat} (hk : k < n) : Calls Try.prog 18 #[.pointer (some ⟨M, 0, none⟩), .int .i64 k] w fun e w' => e = .returned (.tuple #[.float .f64 d[k]!, .bool true]) ∧ w' = w := by
  have c0 := h.c0
  have c2 := h.c2
  have c3 := h.row.cell (i := k) (by rw [h.len]; exact hk)
  generalize d[k]! = x at *
  have z1 : (k : Int) < (n : Int) := by omega
  have z2 : ¬ (k : Int) < 0 := by omega
  have z3 : (0 : Int) ≤ (k : Int) := by omega
  clear h hk
  go_enter Try.func18, Try.ntmps18
  go_wp2
  go_ret2
  exact ⟨rfl, rfl⟩
set_option maxRecDepth 20000 in
theorem t18u {lo : Nat} {w : World} {M L n s : Nat} {d : List Nat} (h : MP lo w M L n s false d) (k : Int) : Calls Try.prog 18 #[.pointer (some ⟨M, 0, none⟩), .int .i64 k] w fun e w' => e = .returned (.tuple #[.float .f64 0, .bool false]) ∧ w' = w := by
  have c0 := h.c0
  have c2 := h.c2
  clear h
  go_enter Try.func18, Try.ntmps18
  go_wp2
  go_ret2
  exact ⟨rfl, rfl⟩
set_option maxRecDepth 20000 in
theorem t18o {lo : Nat} {w : World} {M L n s : Nat} {fed : Bool} {d : List Nat} (h : MP lo w M L n s fed d) {k : Int} (hk : k < 0 ∨ (n : Int) ≤ k) : Calls Try.prog 18 #[.pointer (some ⟨M, 0, none⟩), .int .i64 k] w fun e w' => e = .returned (.tuple #[.float .f64 0, .bool false]) ∧ w' = w := by
  have c0 := h.c0
  have c2 := h.c2
  clear h
  cases fed
  · go_enter Try.func18, Try.ntmps18
    go_wp2
    go_ret2
    exact ⟨rfl, rfl⟩
  · rcases hk with hk | hk
    · go_enter Try.func18, Try.ntmps18
      go_wp2
      go_ret2
      exact ⟨rfl, rfl⟩
    · have z : ¬ k < 0 := by omega
      go_enter Try.func18, Try.ntmps18
      go_wp2
      go_ret2
      exact ⟨rfl, rfl⟩
end Go.Proofs.Ytgalgnopjcpocaa

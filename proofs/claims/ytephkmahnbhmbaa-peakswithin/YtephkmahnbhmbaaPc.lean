/- The cells about a cell, gone over by a function. -/
import Derived.Test.YtephkmahnbhmbaaPb
namespace Go.Proofs.Ytephkmahnbhmbaa
open Go.ChangeShapes Go.WideShapes Go.ChangeAt Go.RowKit Go.Fl Go.Sort
attribute [local go_sem] run_store_float call52 run_neg fold_eq fold_ne fold_lt fold_gt abs_eq eqg57

theorem run_min {P : Program} (ts : Array TypeId) (t : TypeId) (x y : Int) (w : World) : (Builtin.min_ ts t #[.int .i64 x, .int .i64 y]).run P w = .ok (.int .i64 (min x y)) w := by
  rcases Int.lt_or_le y x with h | h
  · rw [show min x y = y by omega]
    simp [Builtin.min_, Builtin.min2]; omega
  · rw [show min x y = x by omega]
    simp [Builtin.min_, Builtin.min2]; omega
theorem run_max {P : Program} (ts : Array TypeId) (t : TypeId) (x y : Int) (w : World) : (Builtin.max_ ts t #[.int .i64 x, .int .i64 y]).run P w = .ok (.int .i64 (max x y)) w := by
  rcases Int.lt_or_le x y with h | h
  · rw [show max x y = y by omega]
    simp [Builtin.max_, Builtin.max2]; omega
  · rw [show max x y = x by omega]
    simp [Builtin.max_, Builtin.max2]; omega
/-- The blocks of which F speaks are kept. -/
structure Kp (F : Nat → Prop) (w w' : World) : Prop where
  os : w'.os = w.os
  tape : w'.tape = w.tape
  output : w'.output = w.output
  size : w.heap.size ≤ w'.heap.size
  block : ∀ k, F k → k < w.heap.size → w'.heap[k]? = w.heap[k]?
theorem Kp.refl (F : Nat → Prop) (w : World) : Kp F w w := ⟨rfl, rfl, rfl, Nat.le_refl _, fun _ _ _ => rfl⟩
theorem Kp.of_up {F : Nat → Prop} {w w' : World} (h : Up w w') : Kp F w w' := ⟨RowKit.Below.os h, RowKit.Below.tape h, RowKit.Below.output h, RowKit.Below.size h, fun k _ hk => RowKit.Below.block h k hk⟩
theorem Kp.trans {F : Nat → Prop} {a b c : World} (h : Kp F a b) (k : Kp F b c) : Kp F a c :=
  ⟨k.os.trans h.os, k.tape.trans h.tape, k.output.trans h.output, Nat.le_trans h.size k.size, fun i hi hl => (k.block i hi (Nat.lt_of_lt_of_le hl h.size)).trans (h.block i hi hl)⟩
theorem Kp.mono {F G : Nat → Prop} {a b : World} (h : Kp F a b) (hG : ∀ k, G k → F k) : Kp G a b := ⟨h.os, h.tape, h.output, h.size, fun k hk hl => h.block k (hG k hk) hl⟩
theorem Kp.cell {F : Nat → Prop} {w w' : World} {b k : Nat} {v : Value} (h : Kp F w w') (hF : F b) (hc : w.cell? ⟨b, k, none⟩ = some v) : w'.cell? ⟨b, k, none⟩ = some v := by
  obtain ⟨c, e, fr, hb, _⟩ := cells_of_cell? hc
  rw [World.cell?_of_block (h.block b hF (Array.getElem?_eq_some_iff.1 hb).1)]; exact hc
theorem Kp.up {w w' : World} {F : Nat → Prop} (h : Kp F w w') (hF : ∀ k, k < w.heap.size → F k) : Up w w' := ⟨h.os, h.tape, h.output, h.size, fun k hk => h.block k (hF k hk) hk⟩
/-- F, and the blocks that have come since. -/
def More (F : Nat → Prop) (w w' : World) (k : Nat) : Prop := F k ∨ (w.heap.size ≤ k ∧ k < w'.heap.size)
/-- What a function does that is handed a cell: I tells how far it has come, and keeps out of F. -/
structure Visits (fg : Nat) (cb : Array Value) (C : Int × Int → Prop) (I : (Nat → Prop) → List (Int × Int) → World → Prop) : Prop where
  up : ∀ {F l w w'}, I F l w → Up w w' → I (More F w w') l w'
  step : ∀ {F l w x y}, C (x, y) → I F l w → Calls Try.prog fg (#[.agg #[.int .i64 x, .int .i64 y]] ++ cb) w fun e w' => e = .returned (.tuple #[]) ∧ Hid (I F (l ++ [(x, y)]) w') ∧ Hid (Kp F w w')
/-- The cells of one bin that are gone over, of m gates; of j bins. -/
def rowN (b g y fr : Int) : Nat → List (Int × Int)
  | 0 => []
  | k + 1 => rowN b g y fr k ++ (if sameC y (fr + k) b g = true then [] else [(y, fr + k)])
def binsN (f : Nat → Int) (b g fr : Int) (m : Nat) : Nat → List (Int × Int)
  | 0 => []
  | j + 1 => binsN f b g fr m j ++ rowN b g (f j) fr m
def binA (bins b : Int) (j : Nat) : Int := if j = 0 then b else if j = 1 then belowB bins b else aboveB bins b
def frG (g : Int) : Int := max g 1 - 1
def toG (last g : Int) : Int := min g (last - 1) + 1
/-- The neighbours of a cell, in the order in which they are gone over. -/
def nbL (bins last b g : Int) : List (Int × Int) := binsN (binA bins b) b g (frG g) (toG last g - frG g + 1).toNat (min bins 3).toNat
/-- The two boxes. -/
def ABx (N : Nat) (bins last b g : Int) (w : World) : Prop := w.cell? ⟨N, 0, none⟩ = some (.int .i64 bins) ∧ w.cell? ⟨N, 1, none⟩ = some (.int .i64 last) ∧ w.cell? ⟨N + 1, 0, none⟩ = some (.int .i64 b) ∧ w.cell? ⟨N + 1, 1, none⟩ = some (.int .i64 g)
theorem ABx.kp {F : Nat → Prop} {N : Nat} {bins last b g : Int} {w w' : World} (h : ABx N bins last b g w) (hk : Kp F w w') (h0 : F N) (h1 : F (N + 1)) : ABx N bins last b g w' :=
  ⟨hk.cell h0 h.1, hk.cell h0 h.2.1, hk.cell h1 h.2.2.1, hk.cell h1 h.2.2.2⟩
theorem rowN_mem {b g y fr : Int} {m k : Nat} (hk : k < m) (hs : sameC y (fr + k) b g = false) : (y, fr + k) ∈ rowN b g y fr m := by
  induction m with
  | zero => omega
  | succ m ih =>
    unfold rowN
    rcases Nat.lt_succ_iff_lt_or_eq.1 hk with h | h
    · exact List.mem_append_left _ (ih h)
    · subst h; rw [hs]; simp
theorem binsN_mem {f : Nat → Int} {b g fr : Int} {m n j : Nat} (hj : j < n) {c : Int × Int} (hc : c ∈ rowN b g (f j) fr m) : c ∈ binsN f b g fr m n := by
  induction n with
  | zero => omega
  | succ n ih =>
    unfold binsN
    rcases Nat.lt_succ_iff_lt_or_eq.1 hj with h | h
    · exact List.mem_append_left _ (ih h)
    · subst h; exact List.mem_append_right _ hc
/-- What stands behind a round. -/
structure AW (I : (Nat → Prop) → List (Int × Int) → World → Prop) (F0 : Nat → Prop) (w : World) (N A : Nat) (bins last b g : Int) (l : List (Int × Int)) (wr : World) : Prop where
  ex : ∃ F : Nat → Prop, (∀ k, F0 k → F k) ∧ (∀ k, N ≤ k → k ≤ A → F k) ∧ I F l wr
  box : ABx N bins last b g wr
  arr : wr.cell? ⟨A, 0, none⟩ = some (.int .i64 b) ∧ wr.cell? ⟨A, 1, none⟩ = some (.int .i64 (belowB bins b)) ∧ wr.cell? ⟨A, 2, none⟩ = some (.int .i64 (aboveB bins b))
  kp : Kp F0 w wr
theorem AW.up {I : (Nat → Prop) → List (Int × Int) → World → Prop} {fg : Nat} {cb : Array Value} {C : Int × Int → Prop} (V : Visits fg cb C I) {F0 : Nat → Prop} {w : World} {N A : Nat} {bins last b g : Int} {l : List (Int × Int)} {wr w' : World} (h : AW I F0 w N A bins last b g l wr) (hu : Up wr w') : AW I F0 w N A bins last b g l w' := by
  obtain ⟨F, h1, h2, h3⟩ := h.ex
  exact ⟨⟨More F wr w', fun k hk => Or.inl (h1 k hk), fun k hk hk' => Or.inl (h2 k hk hk'), V.up h3 hu⟩, h.box.kp (F := fun _ => True) (Kp.of_up hu) trivial trivial, ⟨cell_up h.arr.1 hu, cell_up h.arr.2.1 hu, cell_up h.arr.2.2 hu⟩, h.kp.trans (Kp.of_up hu)⟩
theorem AW.step {I : (Nat → Prop) → List (Int × Int) → World → Prop} {fg : Nat} {cb : Array Value} {C : Int × Int → Prop} (V : Visits fg cb C I) {F0 : Nat → Prop} {w : World} {N A : Nat} {bins last b g : Int} {l : List (Int × Int)} {wr : World} (hA : N + 1 ≤ A) (h : AW I F0 w N A bins last b g l wr) {x y : Int} (hc : C (x, y)) :
    Calls Try.prog fg (#[.agg #[.int .i64 x, .int .i64 y]] ++ cb) wr fun e w' => e = .returned (.tuple #[]) ∧ Hid (AW I F0 w N A bins last b g (l ++ [(x, y)]) w') := by
  obtain ⟨F, h1, h2, h3⟩ := h.ex
  refine (V.step hc h3).mono ?_
  rintro e w' ⟨rfl, HI, HK⟩
  exact ⟨rfl, ⟨F, h1, h2, HI.out⟩, h.box.kp HK.out (h2 _ (by omega) (by omega)) (h2 _ (by omega) (by omega)), ⟨HK.out.cell (h2 _ (by omega) (by omega)) h.arr.1, HK.out.cell (h2 _ (by omega) (by omega)) h.arr.2.1, HK.out.cell (h2 _ (by omega) (by omega)) h.arr.2.2⟩, h.kp.trans (HK.out.mono h1)⟩
theorem box2_new (w : World) (bins last b g : Int) : ABx w.heap.size bins last b g ((w.alloc (.cells #[.int .i64 bins, .int .i64 last] 54)).alloc (.cells #[.int .i64 b, .int .i64 g] 57)) := four_cells w _ _ _ _ 54 57
set_option maxRecDepth 20000 in
set_option maxHeartbeats 2000000 in
theorem t53 {fg : Nat} {cb : Array Value} {I : (Nat → Prop) → List (Int × Int) → World → Prop} {bins last b g : Int} (V : Visits fg cb (fun c => c ∈ nbL bins last b g) I) (eg : ∀ args w, (callFunc fg args).run Try.prog w = .ok (.enter fg args) w)
    {F0 : Nat → Prop} {w : World} (h0 : I F0 [] w) (b0 : 0 ≤ b) (b1 : b < bins) (b2 : bins ≤ 9223372036854775807) (g0 : 0 ≤ g) (g1 : g ≤ last) (g2 : last ≤ 9223372036854775807) :
    Calls Try.prog 53 #[.agg #[.int .i64 bins, .int .i64 last], .agg #[.int .i64 b, .int .i64 g], .func (.func fg) #[] cb] w fun e w' => e = .returned (.tuple #[]) ∧ ∃ F, Hid ((∀ k, F0 k → F k) ∧ I F (nbL bins last b g) w' ∧ Kp F0 w w') := by
  have HI : Hid (I F0 [] w) := h0
  have HV : Hid (Visits fg cb (fun c => c ∈ nbL bins last b g) I) := V
  clear h0 V
  obtain ⟨fr, hfr⟩ : ∃ fr, frG g = fr := ⟨_, rfl⟩
  obtain ⟨tt, hto⟩ : ∃ tt, toG last g = tt := ⟨_, rfl⟩
  have HF : Hid (frG g = fr ∧ toG last g = tt) := ⟨hfr, hto⟩
  have f1 : max g 1 - 1 = fr := hfr
  have f2 : min g (last - 1) + 1 = tt := hto
  clear hfr hto
  have HB : Hid (ABx w.heap.size bins last b g ((w.alloc (.cells #[.int .i64 bins, .int .i64 last] 54)).alloc (.cells #[.int .i64 b, .int .i64 g] 57))) := box2_new w bins last b g
  have HU : Hid (Up w ((w.alloc (.cells #[.int .i64 bins, .int .i64 last] 54)).alloc (.cells #[.int .i64 b, .int .i64 g] 57))) := (Up.alloc _ _).trans (Up.alloc _ _)
  have HS : Hid (((w.alloc (.cells #[.int .i64 bins, .int .i64 last] 54)).alloc (.cells #[.int .i64 b, .int .i64 g] 57)).heap.size = w.heap.size + 2) := by show _ = _; simp
  obtain ⟨c1, c2, c3, c4⟩ := HB.out
  go_enter Try.func53, Try.ntmps53
  go_wp2_with fail
  generalize hN : w.heap.size = N at *
  generalize (w.alloc (.cells #[.int .i64 bins, .int .i64 last] 54)).alloc (.cells #[.int .i64 b, .int .i64 g] 57) = W at *
  refine wp_region_ord 12 [(0, none), (1, some false), (2, none), (3, none), (4, none), (5, some false), (6, none), (7, some false), (8, none), (9, none), (10, none), (11, none)] (ABx N bins last b g) (by kernel_rfl) (by decide) rfl (by kernel_rfl) (fun _ _ d _ _ h => by cases d <;> exact h) (HB.out) ?_
  refine ⟨_, .pointer (some ⟨N + 1, 1, none⟩), some 13, rfl, rfl, Or.inl ⟨rfl, fun w' hS => ?_⟩, ?_⟩
  · go_simp
  refine ⟨_, .int .i64 g, some 14, rfl, rfl, Or.inl ⟨rfl, fun w' hS => ?_⟩, ?_⟩
  · have l1 := (hS : ABx N bins last b g w').2.2.2
    go_simp
  refine ⟨_, .int .i64 (max g 1), some 15, rfl, rfl, Or.inl ⟨rfl, fun w' hS => ?_⟩, ?_⟩
  · go_simp
    (split <;> omega)
  refine ⟨_, .int .i64 fr, some 16, rfl, rfl, Or.inl ⟨rfl, fun w' hS => ?_⟩, ?_⟩
  · go_simp
    rw [IntKind.wrap_i64]; omega
  refine ⟨_, .pointer (some ⟨N + 1, 1, none⟩), some 17, rfl, rfl, Or.inl ⟨rfl, fun w' hS => ?_⟩, ?_⟩
  · go_simp
  refine ⟨_, .int .i64 g, some 18, rfl, rfl, Or.inl ⟨rfl, fun w' hS => ?_⟩, ?_⟩
  · have l1 := (hS : ABx N bins last b g w').2.2.2
    go_simp
  refine ⟨_, .pointer (some ⟨N, 1, none⟩), some 19, rfl, rfl, Or.inl ⟨rfl, fun w' hS => ?_⟩, ?_⟩
  · go_simp
  refine ⟨_, .int .i64 last, some 20, rfl, rfl, Or.inl ⟨rfl, fun w' hS => ?_⟩, ?_⟩
  · have l1 := (hS : ABx N bins last b g w').2.1
    go_simp
  refine ⟨_, .int .i64 (last - 1), some 21, rfl, rfl, Or.inl ⟨rfl, fun w' hS => ?_⟩, ?_⟩
  · go_simp
    rw [IntKind.wrap_i64]; omega
  refine ⟨_, .int .i64 (min g (last - 1)), some 22, rfl, rfl, Or.inl ⟨rfl, fun w' hS => ?_⟩, ?_⟩
  · go_simp
    (split <;> omega)
  refine ⟨_, .int .i64 tt, some 23, rfl, rfl, Or.inl ⟨rfl, fun w' hS => ?_⟩, ?_⟩
  · go_simp
    rw [IntKind.wrap_i64]; omega
  refine ⟨_, .int .i64 fr, some 6, rfl, rfl, Or.inl ⟨rfl, fun w' hS => ?_⟩, ?_⟩
  · go_simp
  simp only [OrdW, List.drop_succ_cons, List.drop_zero, Act.put, List.setIfInBounds_toArray, List.set_cons_succ, List.set_cons_zero]
  have HB1 : Hid (ABx N bins last b g W.drew) := HB.out
  have HU1 : Hid (Up w W.drew) := HU.out.trans (Up.drewN _ 1)
  have HS1 : Hid (W.drew.heap.size = N + 2) := HS.out
  have d1 : W.drew.cell? ⟨N, 0, none⟩ = some (.int .i64 bins) := c1
  have d2 : W.drew.cell? ⟨N, 1, none⟩ = some (.int .i64 last) := c2
  have d3 : W.drew.cell? ⟨N + 1, 0, none⟩ = some (.int .i64 b) := c3
  have d4 : W.drew.cell? ⟨N + 1, 1, none⟩ = some (.int .i64 g) := c4
  clear HB HU HS c1 c2 c3 c4
  generalize W.drew = W1 at *
  clear W
  obtain ⟨nb, hnb⟩ : ∃ nb : Nat, (min bins 3).toNat = nb := ⟨_, rfl⟩
  have HNB : Hid ((min bins 3).toNat = nb) := hnb
  have e1 : (if (3 : Int) < bins then (3 : Int) else bins) = (nb : Int) := by split <;> omega
  have e2 : nb ≤ 3 := by omega
  have e3 : 1 ≤ nb := by omega
  have e4 : (nb : Int) ≤ 3 := by omega
  clear hnb
  go_wp2_with (first
    | (go_at_call 67; (with_reducible refine (t67 bins last b _ b0 b1 b2).mono ?_); rintro e w1 ⟨rfl, HG⟩; (have x1 := cell_up (cell_up d1 HG.out.up) (Up.alloc w1 (.cells #[.int .i64 b, .int .i64 (belowB bins b), .int .i64 (aboveB bins b)] 86)))))
  have HA : Hid (AW I F0 w N w1.heap.size bins last b g [] (w1.alloc (.cells #[.int .i64 b, .int .i64 (belowB bins b), .int .i64 (aboveB bins b)] 86))) := by
    have hu : Up w (w1.alloc (.cells #[.int .i64 b, .int .i64 (belowB bins b), .int .i64 (aboveB bins b)] 86)) := (HU1.out.trans HG.out.up).trans (Up.alloc _ _)
    refine ⟨⟨_, fun k hk => Or.inl hk, fun k hk hk' => Or.inr ⟨by omega, by simp; omega⟩, HV.out.up HI.out hu⟩, ?_, ?_, Kp.of_up hu⟩
    · exact HB1.out.kp (F := fun _ => True) (Kp.of_up (HG.out.up.trans (Up.alloc _ _))) trivial trivial
    · refine ⟨?_, ?_, ?_⟩ <;> rw [World.cell?_alloc_at _ _ _ _ rfl] <;> rfl
  have HN : Hid (N + 1 ≤ w1.heap.size) := by
    have h1 := HS1.out
    have h2 := RowKit.Below.size HG.out.up
    show _ ≤ _
    omega
  generalize w1.alloc (.cells #[.int .i64 b, .int .i64 (belowB bins b), .int .i64 (aboveB bins b)] 86) = W2 at *
  generalize w1.heap.size = A at *
  obtain ⟨m, hm⟩ : ∃ m : Nat, (tt - fr + 1).toNat = m := ⟨_, rfl⟩
  have HM : Hid ((tt - fr + 1).toNat = m) := hm
  have m1 : tt - fr + 1 = (m : Int) := by omega
  have m2 : m ≤ 3 := by omega
  have fr0 : 0 ≤ fr := by omega
  have fr1 : fr + (m : Int) ≤ 9223372036854775807 + 1 := by omega
  have fr2 : tt ≤ 9223372036854775807 := by omega
  have HNL : Hid (∀ j k : Nat, j < nb → k < m → sameC (binA bins b j) (fr + k) b g = false → (binA bins b j, fr + (k : Int)) ∈ nbL bins last b g) := by
    intro j k hj hk hs
    unfold nbL
    rw [HF.out.1, HF.out.2, HM.out, HNB.out]
    exact binsN_mem hj (rowN_mem hk hs)
  clear hm HU1 HS1 HG HB1 HI d1 d2 d3 d4 x1 f1 f2
  go_loopw [10, 11, 12, 33] (fun _ _ _ vi wr => ∃ j : Nat, j ≤ nb ∧ vi = .int .i64 j ∧ Hid (AW I F0 w N A bins last b g (binsN (binA bins b) b g fr m j) wr)) (fun _ _ _ vi _ => nb - (intOf vi).toNat)
  case atStart => exact ⟨0, by omega, rfl, HA⟩
  case round =>
    clear HA
    obtain ⟨j, hj, rfl, HA⟩ := hrel
    rename World => wr
    by_cases hlt : j < nb
    · have z1 : (j : Int) < (nb : Int) := by omega
      have z2 : (0 : Int) ≤ (j : Int) := by omega
      have cj : wr.cell? ⟨A, j, none⟩ = some (.int .i64 (binA bins b j)) := by
        obtain ⟨q0, q1, q2⟩ := HA.out.arr
        unfold binA
        rcases (show j = 0 ∨ j = 1 ∨ j = 2 by omega) with rfl | rfl | rfl
        · exact q0
        · exact q1
        · exact q2
      obtain ⟨y, hy⟩ : ∃ y, binA bins b j = y := ⟨_, rfl⟩
      rw [hy] at cj
      have HY : Hid (binA bins b j = y) := hy
      clear hy
      go_wp2
      go_loopw [11, 12, 41] (fun _ _ vk wr => ∃ k : Nat, k ≤ m ∧ vk = .int .i64 k ∧ Hid (AW I F0 w N A bins last b g (binsN (binA bins b) b g fr m j ++ rowN b g y fr k) wr)) (fun _ _ vk _ => m - (intOf vk).toNat)
      case atStart => exact ⟨0, by omega, rfl, by show AW _ _ _ _ _ _ _ _ _ _ _; rw [rowN, List.append_nil]; exact HA.out⟩
      case round =>
        clear HA cj
        obtain ⟨k, hk, rfl, HA⟩ := hrel
        rename World => wr
        by_cases hlk : k < m
        · have y1 : (k : Int) < (m : Int) := by omega
          have y2 : (0 : Int) ≤ (k : Int) := by omega
          obtain ⟨z, hz⟩ : ∃ z, fr + (k : Int) = z := ⟨_, rfl⟩
          have HZ : Hid (fr + (k : Int) = z) := hz
          have y3 : IntKind.i64.wrap z = z := by rw [IntKind.wrap_i64]; omega
          have HA1 : Hid (AW I F0 w N A bins last b g (binsN (binA bins b) b g fr m j ++ rowN b g y fr k) (wr.alloc (.cells #[.int .i64 y, .int .i64 z] 57))) := HA.out.up HV.out (Up.alloc _ _)
          have q3 := HA1.out.box.2.2.1
          have q4 := HA1.out.box.2.2.2
          obtain ⟨s, hs⟩ : ∃ s, sameC y z b g = s := ⟨_, rfl⟩
          have hne := neq57 y z b g
          rw [hs] at hne
          have HSM : Hid (sameC y z b g = s) := hs
          clear hs HA
          cases s
          · have hin : (y, z) ∈ nbL bins last b g := by
              have := HNL.out j k hlt hlk (by rw [HY.out, HZ.out]; exact HSM.out)
              rwa [HY.out, HZ.out] at this
            have HIN : Hid ((y, z) ∈ nbL bins last b g) := hin
            clear hin
            have HC : Hid (Calls Try.prog fg (#[.agg #[.int .i64 y, .int .i64 z]] ++ cb) (wr.alloc (.cells #[.int .i64 y, .int .i64 z] 57)) fun e w' => e = .returned (.tuple #[]) ∧ Hid (AW I F0 w N A bins last b g (binsN (binA bins b) b g fr m j ++ rowN b g y fr k ++ [(y, z)]) w')) := AW.step HV.out HN.out HA1.out HIN.out
            go_wp2_with fail
            with_reducible refine HC.out.mono ?_
            rintro e w4 ⟨rfl, HA2⟩
            clear HC
            go_wp2
            go_roundw
            case rel => exact ⟨k + 1, by omega, by go_num, by
              show AW _ _ _ _ _ _ _ _ _ _ _
              rw [rowN, HZ.out, HSM.out, ← List.append_assoc]; exact HA2.out⟩
            case measure => simp [intOf]; omega
          · go_wp2
            go_roundw
            case rel => exact ⟨k + 1, by omega, by go_num, by
              show AW _ _ _ _ _ _ _ _ _ _ _
              rw [rowN, HZ.out, HSM.out, if_pos rfl, List.append_nil]; exact HA1.out⟩
            case measure => simp [intOf]; omega
        · obtain rfl : k = m := by omega
          go_wp2
          go_roundw
          case rel => exact ⟨j + 1, by omega, by go_num, by
            show AW _ _ _ _ _ _ _ _ _ _ _
            rw [binsN, HY.out]; exact HA.out⟩
          case measure => simp [intOf]; omega
    · obtain rfl : j = nb := by omega
      go_wp2
      go_end0
      obtain ⟨F, r1, r2, r3⟩ := HA.out.ex
      refine ⟨rfl, F, r1, ?_, HA.out.kp⟩
      unfold nbL
      rw [HF.out.1, HF.out.2, HM.out, HNB.out]
      exact r3
end Go.Proofs.Ytephkmahnbhmbaa

/- Barker's rows and the codes of the program. -/
import Derived.Test.YtgalgnopjcpocaaL
import Derived.Lib.OthersKept
namespace Go.Proofs.Ytgalgnopjcpocaa
open Go.ChangeShapes Go.WideShapes Go.ChangeAt Go.RowKit Go.Fl Ieee
attribute [local go_sem] run_store_float run_store_complex call20 call33 run_neg fold_eq fold_ne fold_lt fold_gt abs_eq

theorem Fill.kept {w0 w w' : World} {g n k : Nat} {F : Nat → Option Nat × Option Nat} (h : Fill w0 w g n F k) {row : Option Nat} (hg : w.grownBy w' row) (hne : some g ≠ row) (hb : ∀ j, row = some j → w0.heap.size ≤ j) : Fill w0 w' g n F k := by
  obtain ⟨⟨d, h1, h2, h3⟩, h4⟩ := h
  exact ⟨⟨d, h1, World.ownsRow.kept h2 hg (Or.inr hne), h3⟩, Below.grown h4 hg h4.size hb⟩
theorem grown_iter {w : World} {k : Nat} (s : ByteArray) (p : Nat) : w.grownBy (w.iterAt k s p) (some k) :=
  ⟨rfl, rfl, rfl, by rw [Go.Lib.iterAt_size]; exact Nat.le_refl _, fun j _ hne => Go.Lib.iterAt_other w k j s p (fun e => hne (by rw [e]))⟩
theorem Fill.dirty {w0 w : World} {g n k i r s : Nat} {F : Nat → Option Nat × Option Nat} (h : Fill w0 w g n F k) (hi : k ≤ i) : Fill w0 (w.setCell ⟨g, i, none⟩ (.complex .f64 r s)) g n F k := by
  obtain ⟨⟨d, rfl, h2, h3⟩, h4⟩ := h
  obtain ⟨s1, s2⟩ := World.ownsRow.stored h2 i (.complex .f64 r s)
  refine ⟨⟨d.set i (r, s), by simp, ?_, ?_⟩, Below.grown h4 s2 h4.size (fun j hj => (World.ownsRow.lt h2 j (by simpa [Value.ownBlock] using hj)).1)⟩
  · unfold CRow
    rw [List.length_set, List.map_set]
    exact s1
  · intro j hj
    rw [← h3 j hj]
    by_cases hl : j < d.length
    · rw [getElem!_pos _ j (by simpa using hl), List.getElem_set, if_neg (by omega), getElem!_pos d j hl]
    · rw [getElem!_neg _ j (by simpa using hl), getElem!_neg d j hl]

/-- The signs of a row. -/
def rowS (n : Int) : ByteArray :=
  if n = 2 then ⟨#[43, 45]⟩ else if n = 3 then ⟨#[43, 43, 45]⟩ else if n = 4 then ⟨#[43, 43, 45, 43]⟩ else if n = 5 then ⟨#[43, 43, 43, 45, 43]⟩
  else if n = 7 then ⟨#[43, 43, 43, 45, 45, 43, 45]⟩ else if n = 11 then ⟨#[43, 43, 43, 45, 45, 45, 43, 45, 45, 43, 45]⟩ else if n = 13 then ⟨#[43, 43, 43, 43, 43, 45, 45, 43, 43, 45, 43, 45, 43]⟩ else ⟨#[]⟩
set_option maxRecDepth 20000 in
theorem t46 (n : Int) (w : World) : Calls Try.prog 46 #[.int .i64 n] w fun e w' => e = .returned (.string (rowS n)) ∧ w' = w := by
  go_enter Try.func46, Try.ntmps46
  go_wp2
  all_goals (go_ret; go_tidy; refine ⟨?_, rfl⟩)
  all_goals simp_all [rowS]
theorem row_facts (n : Int) : rowS n = ⟨#[]⟩ ∨ ((rowS n).size = n.toNat ∧ 2 ≤ n ∧ n ≤ 13 ∧ (rowS n).toList.isEmpty = false ∧ ∀ k, k < (rowS n).size → (rowS n).get! k = 43 ∨ (rowS n).get! k = 45) := by
  unfold rowS
  repeat' split
  all_goals first
    | exact Or.inl rfl
    | (right; subst_vars; refine ⟨rfl, by omega, by omega, by decide +kernel, by decide +kernel⟩)
/-- A sign's sample. -/
def signF (s : ByteArray) (k : Nat) : Option Nat × Option Nat := if s.get! k = 45 then (some 13830554455654793216, some 0) else (some 4607182418800017408, some 0)
def barkerL (n : Int) : List (Option Nat × Option Nat) := (List.range (rowS n).size).map (signF (rowS n))
def barkerE (n : Int) : Int := if (rowS n).size = 0 then 40 else 0
theorem get_at {s : ByteArray} {k : Nat} (h : k < s.size) : s.get! k = s[k]'h := by
  simp [ByteArray.get!, getElem!_pos, h]
  rfl
set_option maxRecDepth 20000 in
set_option maxHeartbeats 1000000 in
theorem t34ok (N : Nat) (s : ByteArray) (w : World) (hs : rowS N = s) (hN : s.size = N) (h2 : 2 ≤ N) (h13 : N ≤ 13) (he : s.toList.isEmpty = false) (hb : ∀ k, k < s.size → s.get! k = 43 ∨ s.get! k = 45) : Calls Try.prog 34 #[.int .i64 N] w (PL w ((List.range N).map (signF s)) 0) := by
  obtain ⟨i0, hi, hz0, hz1, hz2⟩ := info_parts info41
  have HRow : Hid (∀ w : World, Calls Try.prog 46 #[.int .i64 N] w fun e w' => e = .returned (.string s) ∧ w' = w) := fun w => by rw [← hs]; exact t46 N w
  have HB : Hid (∀ k, k < s.size → s.get! k = 43 ∨ s.get! k = 45) := hb
  have HN : Hid (s.size = N) := hN
  clear hs hb hN
  go_enter Try.func34, Try.ntmps34
  go_wp2_with (first
    | (go_at_call 46; refine (HRow.out _).mono ?_; rintro e w' ⟨rfl, rfl⟩)
    | (refine wpList_make_full _ rfl _ _ 54 rfl w'.heap.size 53 i0 (.complex .f64 0 0) 1 Try.underlying54 hi hz0 hz1 .i64 .i64 _ _ N rfl rfl rfl rfl (by rw [hz2]; omega) (by unfold maxLen; omega) (Nat.le_refl _) ?_; intro w1 hown hgr; have HF : Hid (Fill _ w1 _ N (signF s) 0) := Fill.new _ hown hgr; clear hown hgr))
  have HF2 : Hid (Fill w' (w1.iter s 0) w'.heap.size N (signF s) 0) := HF.out.up (Up.alloc _ _)
  have HI : Hid ((w1.iter s 0).heap[w1.heap.size]? = some (.stringIter s 0)) := heap_alloc_last _ _
  have hlt0 : w'.heap.size < w1.heap.size := by
    obtain ⟨⟨d, h1, h2, h3⟩, h4⟩ := HF.out
    exact (World.ownsRow.lt h2 _ rfl).2
  generalize w1.heap.size = ki at *
  generalize w1.iter s 0 = w2 at *
  clear HF
  go_loopw [6, 7] (fun _ _ wr => ∃ k : Nat, k ≤ N ∧ Hid (Fill w' wr w'.heap.size N (signF s) k) ∧ Hid (wr.heap[ki]? = some (.stringIter s k)) ) (fun _ _ wr => N - wr.iterPos ki)
  case atStart => exact ⟨0, by omega, HF2, HI⟩
  case round =>
    clear HF2 HI
    obtain ⟨k, hk, HF, HI⟩ := hrel
    by_cases hlt : k < N
    · have hlt' : k < s.size := by rw [HN.out]; exact hlt
      have HFi : Hid (Fill w' (wr.iterAt ki s (k + 1)) w'.heap.size N (signF s) k) := HF.out.kept (grown_iter s (k + 1)) (by simp; omega) (fun j hj => by simp at hj; omega)
      have HIi : Hid ((wr.iterAt ki s (k + 1)).heap[ki]? = some (.stringIter s (k + 1))) := Go.Lib.iterAt_heap wr ki s k (k + 1) HI.out
      obtain ⟨⟨x0, y0, hcell⟩, hfr⟩ := HFi.out.cell hlt
      have HP : Hid (wr.iterPos ki = k) := iterPos_of HI.out
      have hkz : (k : Int) < (N : Int) := by omega
      rcases HB.out k hlt' with hs | hs
      · have hx : ∀ ty, (Instr.next (.pointer (some ⟨ki, 0, none⟩)) true ty).run Try.prog wr = .ok (.tuple #[.bool true, .int .i64 k, .int .i32 43]) (wr.iterAt ki s (k + 1)) := fun ty => by
          have e := get_at hlt'
          rw [hs] at e
          have := Go.Lib.run_next_ascii_at (P := Try.prog) wr ki s k ty HI.out hlt' (by rw [← e]; decide)
          rw [← e] at this
          exact this
        have HS : Hid (signF s k = (some 4607182418800017408, some 0)) := by
          show _ = _
          simp [signF, hs]
        clear hs
        generalize wr.iterAt ki s (k + 1) = wi at *
        go_wp2
        have HE : Hid ((wi.setCell ⟨w'.heap.size, k, none⟩ (.complex .f64 4607182418800017408 0)).heap[ki]? = some (.stringIter s (k + 1))) := by
          show _ = _
          rw [heap_setCell_other _ _ _ _ (by simp; omega)]; exact HIi.out
        go_roundw
        case rel => exact ⟨k + 1, by omega, HFi.out.stored hlt (by rw [HS.out]; decide +kernel) (by rw [HS.out]; decide +kernel), HE⟩
        case measure => rw [HP.out, iterPos_of HE.out]; omega
      · have hx : ∀ ty, (Instr.next (.pointer (some ⟨ki, 0, none⟩)) true ty).run Try.prog wr = .ok (.tuple #[.bool true, .int .i64 k, .int .i32 45]) (wr.iterAt ki s (k + 1)) := fun ty => by
          have e := get_at hlt'
          rw [hs] at e
          have := Go.Lib.run_next_ascii_at (P := Try.prog) wr ki s k ty HI.out hlt' (by rw [← e]; decide)
          rw [← e] at this
          exact this
        have HS : Hid (signF s k = (some 13830554455654793216, some 0)) := by
          show _ = _
          simp [signF, hs]
        clear hs
        generalize wr.iterAt ki s (k + 1) = wi at *
        go_wp2
        have HE : Hid (((wi.setCell ⟨w'.heap.size, k, none⟩ (.complex .f64 4607182418800017408 0)).setCell ⟨w'.heap.size, k, none⟩ (.complex .f64 13830554455654793216 0)).heap[ki]? = some (.stringIter s (k + 1))) := by
          show _ = _
          rw [heap_setCell_other _ _ _ _ (by simp; omega), heap_setCell_other _ _ _ _ (by simp; omega)]; exact HIi.out
        go_roundw
        case rel => exact ⟨k + 1, by omega, (HFi.out.dirty (Nat.le_refl _)).stored hlt (by rw [HS.out]; decide +kernel) (by rw [HS.out]; decide +kernel), HE⟩
        case measure => rw [HP.out, iterPos_of HE.out]; omega
    · obtain rfl : N = k := by omega
      have hx : ∀ ty, (Instr.next (.pointer (some ⟨ki, 0, none⟩)) true ty).run Try.prog wr = .ok (.tuple #[.bool false]) wr := fun ty => Go.Lib.run_next_end_at (P := Try.prog) wr ki s N ty HI.out (by rw [HN.out]; omega)
      go_wp2
      go_ret2
      exact HF.out.pl rfl
set_option maxRecDepth 20000 in
theorem t34 (n : Int) (w : World) : Calls Try.prog 34 #[.int .i64 n] w (PL w (barkerL n) (barkerE n)) := by
  rcases row_facts n with h | ⟨h1, h2, h3, h4, h5⟩
  · have e1 : barkerL n = [] := by rw [barkerL, h]; rfl
    have e2 : barkerE n = 40 := by rw [barkerE, h]; rfl
    rw [e1, e2]
    have HRow : Hid (∀ w : World, Calls Try.prog 46 #[.int .i64 n] w fun e w' => e = .returned (.string ⟨#[]⟩) ∧ w' = w) := fun w => by rw [← h]; exact t46 n w
    clear h e1 e2
    go_enter Try.func34, Try.ntmps34
    go_wp2_with (go_at_call 46; refine (HRow.out _).mono ?_; rintro e w' ⟨rfl, rfl⟩)
    go_ret2
    exact PL.none _ _
  · obtain ⟨N, rfl⟩ := Int.eq_ofNat_of_zero_le (show 0 ≤ n by omega)
    have e2 : barkerE N = 0 := by rw [barkerE, h1, if_neg (by omega)]
    rw [barkerL, e2, h1]
    exact t34ok N (rowS N) w rfl (by rw [h1]; rfl) (by omega) (by omega) h4 h5

theorem PL.under {w0 w w' : World} {L : List (Option Nat × Option Nat)} {c : Int} {e : Ending} (h : PL w L c e w') (hu : Up w0 w) : PL w0 L c e w' := by
  obtain ⟨v, d, he, h1, h2, h3⟩ := h
  exact ⟨v, d, he, World.ownsRow.mono h1.out hu.size, hu.trans h2.out, h3⟩
theorem PL.same {w w' : World} {L L' : List (Option Nat × Option Nat)} {c c' : Int} {e : Ending} (h : PL w L c e w') (hL : L = L') (hc : c = c') : PL w L' c' e w' := by
  subst hL; subst hc; exact h
def order12 : List Int := [1, 2, 4, 8, 5, 10, 9, 7, 3, 6]
def codeL (n : Int) : List (Option Nat × Option Nat) :=
  if n = 0 then [(some 4607182418800017408, some 0)] else if n = 1 then barkerL 2 else if n = 2 then barkerL 3 else if n = 3 then barkerL 4 else if n = 4 then barkerL 5 else if n = 5 then barkerL 7
  else if n = 6 then barkerL 11 else if n = 7 then barkerL 13 else if n = 8 then frankL 4 else if n = 9 then frankL 8 else if n = 10 then chirpL 32 (ab 4620693217682128896) else if n = 11 then chirpL 64 (ab 4625196817309499392)
  else if n = 12 then stepsL order12 16 else []
def codeE (n : Int) : Int :=
  if n = 0 then 0 else if n = 1 then barkerE 2 else if n = 2 then barkerE 3 else if n = 3 then barkerE 4 else if n = 4 then barkerE 5 else if n = 5 then barkerE 7
  else if n = 6 then barkerE 11 else if n = 7 then barkerE 13 else if n = 8 then frankE 4 else if n = 9 then frankE 8 else if n = 10 then chirpE 32 (ab 4620693217682128896) else if n = 11 then chirpE 64 (ab 4625196817309499392)
  else if n = 12 then stepsE order12 16 else 40
theorem irow_new (w : World) (o : List Int) (t : TypeId) {cs : Array Value} {n cap : Nat} (hn : n = o.length) (h : cs = (o.map (Value.int .i64)).toArray) : IRow (w.alloc (.cells cs t)) (.slice (some ⟨w.heap.size, 0, none⟩) n cap) o := by
  subst h; subst hn
  refine ⟨_, cap, rfl, fun i hi => ⟨w.heap.size, 0, rfl, ?_⟩⟩
  rw [cell_of_row _ _ _ _ _ _ (heap_alloc_last _ _), getElem!_pos o i hi]
  simp [List.getElem?_eq_getElem hi]
set_option maxRecDepth 20000 in
theorem t24b (n : Int) (w : World) (m : Int) (hn : n = 1 ∧ m = 2 ∨ n = 2 ∧ m = 3 ∨ n = 3 ∧ m = 4 ∨ n = 4 ∧ m = 5 ∨ n = 5 ∧ m = 7 ∨ n = 6 ∧ m = 11 ∨ n = 7 ∧ m = 13) : Calls Try.prog 24 #[.int .i64 n] w (PL w (barkerL m) (barkerE m)) := by
  rcases hn with ⟨rfl, rfl⟩ | ⟨rfl, rfl⟩ | ⟨rfl, rfl⟩ | ⟨rfl, rfl⟩ | ⟨rfl, rfl⟩ | ⟨rfl, rfl⟩ | ⟨rfl, rfl⟩ <;>
  · go_enter Try.func24, Try.ntmps24
    go_wp2_with (go_at_call 34; refine (t34 _ _).mono ?_; rintro e w1 ⟨v, d, rfl, h1, h2, h3⟩)
    go_ret2
    exact ⟨_, _, rfl, h1, h2, h3⟩
set_option maxRecDepth 20000 in
theorem t24f (n : Int) (w : World) (m : Int) (hn : n = 8 ∧ m = 4 ∨ n = 9 ∧ m = 8) : Calls Try.prog 24 #[.int .i64 n] w (PL w (frankL m) (frankE m)) := by
  rcases hn with ⟨rfl, rfl⟩ | ⟨rfl, rfl⟩ <;>
  · go_enter Try.func24, Try.ntmps24
    go_wp2_with (go_at_call 35; refine (t35 _ _ (by omega)).mono ?_; rintro e w1 ⟨v, d, rfl, h1, h2, h3⟩)
    go_ret2
    exact ⟨_, _, rfl, h1, h2, h3⟩
set_option maxRecDepth 20000 in
theorem t24c (w : World) : Calls Try.prog 24 #[.int .i64 10] w (PL w (chirpL 32 (ab 4620693217682128896)) (chirpE 32 (ab 4620693217682128896))) := by
  go_enter Try.func24, Try.ntmps24
  go_wp2_with (go_at_call 36; refine (t36 _ _ _).mono ?_; rintro e w1 ⟨v, d, rfl, h1, h2, h3⟩)
  go_ret2
  exact ⟨_, _, rfl, h1, h2, h3⟩
set_option maxRecDepth 20000 in
theorem t24d (w : World) : Calls Try.prog 24 #[.int .i64 11] w (PL w (chirpL 64 (ab 4625196817309499392)) (chirpE 64 (ab 4625196817309499392))) := by
  go_enter Try.func24, Try.ntmps24
  go_wp2_with (go_at_call 36; refine (t36 _ _ _).mono ?_; rintro e w1 ⟨v, d, rfl, h1, h2, h3⟩)
  go_ret2
  exact ⟨_, _, rfl, h1, h2, h3⟩
set_option maxRecDepth 20000 in
theorem t24s (w : World) : Calls Try.prog 24 #[.int .i64 12] w (PL w (stepsL order12 16) (stepsE order12 16)) := by
  go_enter Try.func24, Try.ntmps24
  go_wp2_with (go_at_call 37; refine (t37 order12 _ _ _ (irow_new _ order12 _ rfl rfl) (by decide) (by omega)).mono ?_; intro e w1 hp; obtain ⟨v, d, rfl, h1, h2, h3⟩ := hp.under (Up.alloc _ _))
  go_ret2
  exact ⟨_, _, rfl, h1, h2, h3⟩
set_option maxRecDepth 20000 in
theorem t24z (w : World) : Calls Try.prog 24 #[.int .i64 0] w (PL w [(some 4607182418800017408, some 0)] 0) := by
  go_enter Try.func24, Try.ntmps24
  go_wp2
  go_ret2
  exact ⟨_, [(4607182418800017408, 0)], rfl, World.ownsRow_lit w #[.complex .f64 4607182418800017408 0] 1 (Nat.le_refl _) (by decide) rfl, Up.alloc _ _, by show _ = _; decide +kernel⟩
set_option maxRecDepth 20000 in
theorem t24n (n : Int) (w : World) (h : ¬ (0 ≤ n ∧ n ≤ 12)) : Calls Try.prog 24 #[.int .i64 n] w (PL w [] 40) := by
  have h0 : (n == 0) = false := by rw [beq_eq_false_iff_ne]; omega
  have h1 : (n == 1) = false := by rw [beq_eq_false_iff_ne]; omega
  have h2 : (n == 2) = false := by rw [beq_eq_false_iff_ne]; omega
  have h3 : (n == 3) = false := by rw [beq_eq_false_iff_ne]; omega
  have h4 : (n == 4) = false := by rw [beq_eq_false_iff_ne]; omega
  have h5 : (n == 5) = false := by rw [beq_eq_false_iff_ne]; omega
  have h6 : (n == 6) = false := by rw [beq_eq_false_iff_ne]; omega
  have h7 : (n == 7) = false := by rw [beq_eq_false_iff_ne]; omega
  have h8 : (n == 8) = false := by rw [beq_eq_false_iff_ne]; omega
  have h9 : (n == 9) = false := by rw [beq_eq_false_iff_ne]; omega
  have h10 : (n == 10) = false := by rw [beq_eq_false_iff_ne]; omega
  have h11 : (n == 11) = false := by rw [beq_eq_false_iff_ne]; omega
  have h12 : (n == 12) = false := by rw [beq_eq_false_iff_ne]; omega
  go_enter Try.func24, Try.ntmps24
  go_wp2
  go_ret2
  exact PL.none _ _
set_option maxRecDepth 20000 in
theorem t24 (n : Int) (w : World) : Calls Try.prog 24 #[.int .i64 n] w (PL w (codeL n) (codeE n)) := by
  by_cases h : 0 ≤ n ∧ n ≤ 12
  · obtain ⟨N, rfl⟩ := Int.eq_ofNat_of_zero_le h.1
    have hN : N ≤ 12 := by omega
    clear h
    match N, hN with
    | 0, _ => exact t24z w
    | 1, _ => exact t24b 1 w 2 (by omega)
    | 2, _ => exact t24b 2 w 3 (by omega)
    | 3, _ => exact t24b 3 w 4 (by omega)
    | 4, _ => exact t24b 4 w 5 (by omega)
    | 5, _ => exact t24b 5 w 7 (by omega)
    | 6, _ => exact t24b 6 w 11 (by omega)
    | 7, _ => exact t24b 7 w 13 (by omega)
    | 8, _ => exact t24f 8 w 4 (by omega)
    | 9, _ => exact t24f 9 w 8 (by omega)
    | 10, _ => exact t24c w
    | 11, _ => exact t24d w
    | 12, _ => exact t24s w
    | k + 13, h => omega
  · have e1 : codeL n = [] := by simp only [codeL]; repeat' rw [if_neg (by omega)]
    have e2 : codeE n = 40 := by simp only [codeE]; repeat' rw [if_neg (by omega)]
    rw [e1, e2]
    exact t24n n w h
end Go.Proofs.Ytgalgnopjcpocaa

/- Barker's rows and the codes of the program. -/
import Derived.Test.YtflngnnoibkkoaaGreatE
import Derived.Lib.OthersKept
import Derived.Test.YtflngnnoibkkoaaGreatFl
namespace Go.Proofs.YtflngnnoibkkoaaGreat
open Go.ChangeShapes Go.WideShapes Go.ChangeAt Go.RowKit Go.Fl Ieee
set_option maxRecDepth 200000
set_option maxHeartbeats 8000000
attribute [local go_sem] run_store_float run_store_complex call34 call33 run_neg fold_eq fold_ne fold_lt fold_gt abs_eq

theorem Fill.kept {w0 w w' : World} {g n k : Nat} {F : Nat → Option Nat × Option Nat} (h : Fill w0 w g n F k) {row : Option Nat} (hg : w.grownBy w' row) (hne : some g ≠ row) (hb : ∀ j, row = some j → w0.heap.size ≤ j) : Fill w0 w' g n F k := by
  obtain ⟨⟨d, h1, h2, h3⟩, h4⟩ := h
  exact ⟨⟨d, h1, World.ownsRow.kept h2 hg (Or.inr hne), h3⟩, Below.grown h4 hg h4.size hb⟩
theorem grown_iter {w : World} {k : Nat} (s : ByteArray) (p : Nat) : w.grownBy (w.iterAt k s p) (some k) :=
  ⟨rfl, rfl, rfl, by rw [Go.Lib.iterAt_size]; exact Nat.le_refl _, fun j _ hne => Go.Lib.iterAt_other w k j s p (fun e => hne (by rw [e]))⟩
theorem Fill.dirty {w0 w : World} {g n k i r s : Nat} {F : Nat → Option Nat × Option Nat} (h : Fill w0 w g n F k) (hi : k ≤ i) : Fill w0 (w.setCell ⟨g, i, none⟩ (.complex .f64 r s)) g n F k := by
  obtain ⟨⟨d, rfl, h2, h3⟩, h4⟩ := h
  obtain ⟨s1, s2⟩ := World.ownsRow.stored h2 i (.complex .f64 r s)
  refine ⟨⟨d.set i (r, s), by simp, ?_, ?_⟩, Below.grown h4 s2 h4.size (fun j hj => (World.ownsRow.lt h2 j (by simpa [Value.ownBlock] using hj)).1)⟩
  · unfold CRow
    rw [List.length_set, List.map_set]
    exact s1
  · intro j hj
    rw [← h3 j hj]
    by_cases hl : j < d.length
    · rw [getElem!_pos _ j (by simpa using hl), List.getElem_set, if_neg (by omega), getElem!_pos d j hl]
    · rw [getElem!_neg _ j (by simpa using hl), getElem!_neg d j hl]

/-- The signs of a row. -/
def rowS (n : Int) : ByteArray :=
  if n = 2 then ⟨#[43, 45]⟩ else if n = 3 then ⟨#[43, 43, 45]⟩ else if n = 4 then ⟨#[43, 43, 45, 43]⟩ else if n = 5 then ⟨#[43, 43, 43, 45, 43]⟩
  else if n = 7 then ⟨#[43, 43, 43, 45, 45, 43, 45]⟩ else if n = 11 then ⟨#[43, 43, 43, 45, 45, 45, 43, 45, 45, 43, 45]⟩ else if n = 13 then ⟨#[43, 43, 43, 43, 43, 45, 45, 43, 43, 45, 43, 45, 43]⟩ else ⟨#[]⟩
theorem t48 (n : Int) (w : World) : Calls Tryz.prog 48 #[.int .i64 n] w fun e w' => e = .returned (.string (rowS n)) ∧ w' = w := by
  go_enter Tryz.func48, Tryz.ntmps48
  go_wp2
  all_goals (go_ret; go_tidy; refine ⟨?_, rfl⟩)
  all_goals simp_all [rowS]
theorem row_facts (n : Int) : rowS n = ⟨#[]⟩ ∨ ((rowS n).size = n.toNat ∧ 2 ≤ n ∧ n ≤ 13 ∧ (rowS n).toList.isEmpty = false ∧ ∀ k, k < (rowS n).size → (rowS n).get! k = 43 ∨ (rowS n).get! k = 45) := by
  unfold rowS
  repeat' split
  all_goals first
    | exact Or.inl rfl
    | (right; subst_vars; refine ⟨rfl, by omega, by omega, by decide +kernel, by decide +kernel⟩)
/-- A sign's sample. -/
def signF (s : ByteArray) (k : Nat) : Option Nat × Option Nat := if s.get! k = 45 then (some 13830554455654793216, some 0) else (some 4607182418800017408, some 0)
def barkerL (n : Int) : List (Option Nat × Option Nat) := (List.range (rowS n).size).map (signF (rowS n))
def barkerE (n : Int) : Int := if (rowS n).size = 0 then 40 else 0
theorem get_at {s : ByteArray} {k : Nat} (h : k < s.size) : s.get! k = s[k]'h := by
  simp [ByteArray.get!, getElem!_pos, h]
  rfl
set_option maxHeartbeats 1000000 in
theorem t25ok (N : Nat) (s : ByteArray) (w : World) (hs : rowS N = s) (hN : s.size = N) (h2 : 2 ≤ N) (h13 : N ≤ 13) (he : s.toList.isEmpty = false) (hb : ∀ k, k < s.size → s.get! k = 43 ∨ s.get! k = 45) : Calls Tryz.prog 25 #[.int .i64 N] w (PL w ((List.range N).map (signF s)) 0) := by
  obtain ⟨i0, hi, hz0, hz1, hz2⟩ := info_parts info41
  have HRow : Hid (∀ w : World, Calls Tryz.prog 48 #[.int .i64 N] w fun e w' => e = .returned (.string s) ∧ w' = w) := fun w => by rw [← hs]; exact t48 N w
  have HB : Hid (∀ k, k < s.size → s.get! k = 43 ∨ s.get! k = 45) := hb
  have HN : Hid (s.size = N) := hN
  clear hs hb hN
  go_enter Tryz.func25, Tryz.ntmps25
  go_wp2_with (first
    | (go_at_call 48; refine (HRow.out _).mono ?_; rintro e w' ⟨rfl, rfl⟩)
    | (refine wpList_make_full _ rfl _ _ 34 rfl w'.heap.size 65 i0 (.complex .f64 0 0) 1 Tryz.underlying34 hi hz0 hz1 .i64 .i64 _ _ N rfl rfl rfl rfl (by rw [hz2]; omega) (by unfold maxLen; omega) (Nat.le_refl _) ?_; intro w1 hown hgr; have HF : Hid (Fill _ w1 _ N (signF s) 0) := Fill.new _ hown hgr; clear hown hgr))
  have HF2 : Hid (Fill w' (w1.iter s 0) w'.heap.size N (signF s) 0) := HF.out.up (Up.alloc _ _)
  have HI : Hid ((w1.iter s 0).heap[w1.heap.size]? = some (.stringIter s 0)) := heap_alloc_last _ _
  have hlt0 : w'.heap.size < w1.heap.size := by
    obtain ⟨⟨d, h1, h2, h3⟩, h4⟩ := HF.out
    exact (World.ownsRow.lt h2 _ rfl).2
  generalize w1.heap.size = ki at *
  generalize w1.iter s 0 = w2 at *
  clear HF
  go_loopw [6, 7] (fun _ _ wr => ∃ k : Nat, k ≤ N ∧ Hid (Fill w' wr w'.heap.size N (signF s) k) ∧ Hid (wr.heap[ki]? = some (.stringIter s k)) ) (fun _ _ wr => N - wr.iterPos ki)
  case atStart => exact ⟨0, by omega, HF2, HI⟩
  case round =>
    clear HF2 HI
    obtain ⟨k, hk, HF, HI⟩ := hrel
    by_cases hlt : k < N
    · have hlt' : k < s.size := by rw [HN.out]; exact hlt
      have HFi : Hid (Fill w' (wr.iterAt ki s (k + 1)) w'.heap.size N (signF s) k) := HF.out.kept (grown_iter s (k + 1)) (by simp; omega) (fun j hj => by simp at hj; omega)
      have HIi : Hid ((wr.iterAt ki s (k + 1)).heap[ki]? = some (.stringIter s (k + 1))) := Go.Lib.iterAt_heap wr ki s k (k + 1) HI.out
      obtain ⟨⟨x0, y0, hcell⟩, hfr⟩ := HFi.out.cell hlt
      have HP : Hid (wr.iterPos ki = k) := iterPos_of HI.out
      have hkz : (k : Int) < (N : Int) := by omega
      rcases HB.out k hlt' with hs | hs
      · have hx : ∀ ty, (Instr.next (.pointer (some ⟨ki, 0, none⟩)) true ty).run Tryz.prog wr = .ok (.tuple #[.bool true, .int .i64 k, .int .i32 43]) (wr.iterAt ki s (k + 1)) := fun ty => by
          have e := get_at hlt'
          rw [hs] at e
          have := Go.Lib.run_next_ascii_at (P := Tryz.prog) wr ki s k ty HI.out hlt' (by rw [← e]; decide)
          rw [← e] at this
          exact this
        have HS : Hid (signF s k = (some 4607182418800017408, some 0)) := by
          show _ = _
          simp [signF, hs]
        clear hs
        generalize wr.iterAt ki s (k + 1) = wi at *
        go_wp2
        have HE : Hid ((wi.setCell ⟨w'.heap.size, k, none⟩ (.complex .f64 4607182418800017408 0)).heap[ki]? = some (.stringIter s (k + 1))) := by
          show _ = _
          rw [heap_setCell_other _ _ _ _ (by simp; omega)]; exact HIi.out
        go_roundw
        case rel => exact ⟨k + 1, by omega, HFi.out.stored hlt (by rw [HS.out]; decide +kernel) (by rw [HS.out]; decide +kernel), HE⟩
        case measure => rw [HP.out, iterPos_of HE.out]; omega
      · have hx : ∀ ty, (Instr.next (.pointer (some ⟨ki, 0, none⟩)) true ty).run Tryz.prog wr = .ok (.tuple #[.bool true, .int .i64 k, .int .i32 45]) (wr.iterAt ki s (k + 1)) := fun ty => by
          have e := get_at hlt'
          rw [hs] at e
          have := Go.Lib.run_next_ascii_at (P := Tryz.prog) wr ki s k ty HI.out hlt' (by rw [← e]; decide)
          rw [← e] at this
          exact this
        have HS : Hid (signF s k = (some 13830554455654793216, some 0)) := by
          show _ = _
          simp [signF, hs]
        clear hs
        generalize wr.iterAt ki s (k + 1) = wi at *
        go_wp2
        have HE : Hid (((wi.setCell ⟨w'.heap.size, k, none⟩ (.complex .f64 4607182418800017408 0)).setCell ⟨w'.heap.size, k, none⟩ (.complex .f64 13830554455654793216 0)).heap[ki]? = some (.stringIter s (k + 1))) := by
          show _ = _
          rw [heap_setCell_other _ _ _ _ (by simp; omega), heap_setCell_other _ _ _ _ (by simp; omega)]; exact HIi.out
        go_roundw
        case rel => exact ⟨k + 1, by omega, (HFi.out.dirty (Nat.le_refl _)).stored hlt (by rw [HS.out]; decide +kernel) (by rw [HS.out]; decide +kernel), HE⟩
        case measure => rw [HP.out, iterPos_of HE.out]; omega
    · obtain rfl : N = k := by omega
      have hx : ∀ ty, (Instr.next (.pointer (some ⟨ki, 0, none⟩)) true ty).run Tryz.prog wr = .ok (.tuple #[.bool false]) wr := fun ty => Go.Lib.run_next_end_at (P := Tryz.prog) wr ki s N ty HI.out (by rw [HN.out]; omega)
      go_wp2
      go_ret2
      exact HF.out.pl rfl
theorem t25 (n : Int) (w : World) : Calls Tryz.prog 25 #[.int .i64 n] w (PL w (barkerL n) (barkerE n)) := by
  rcases row_facts n with h | ⟨h1, h2, h3, h4, h5⟩
  · have e1 : barkerL n = [] := by rw [barkerL, h]; rfl
    have e2 : barkerE n = 40 := by rw [barkerE, h]; rfl
    rw [e1, e2]
    have HRow : Hid (∀ w : World, Calls Tryz.prog 48 #[.int .i64 n] w fun e w' => e = .returned (.string ⟨#[]⟩) ∧ w' = w) := fun w => by rw [← h]; exact t48 n w
    clear h e1 e2
    go_enter Tryz.func25, Tryz.ntmps25
    go_wp2_with (go_at_call 48; refine (HRow.out _).mono ?_; rintro e w' ⟨rfl, rfl⟩)
    go_ret2
    exact PL.none _ _
  · obtain ⟨N, rfl⟩ := Int.eq_ofNat_of_zero_le (show 0 ≤ n by omega)
    have e2 : barkerE N = 0 := by rw [barkerE, h1, if_neg (by omega)]
    rw [barkerL, e2, h1]
    exact t25ok N (rowS N) w rfl (by rw [h1]; rfl) (by omega) (by omega) h4 h5

theorem PL.under {w0 w w' : World} {L : List (Option Nat × Option Nat)} {c : Int} {e : Ending} (h : PL w L c e w') (hu : Up w0 w) : PL w0 L c e w' := by
  obtain ⟨v, d, he, h1, h2, h3⟩ := h
  exact ⟨v, d, he, World.ownsRow.mono h1.out hu.size, hu.trans h2.out, h3⟩
def order12 : List Int := [1, 2, 4, 8, 5, 10, 9, 7, 3, 6]
def codeL (n : Int) : List (Option Nat × Option Nat) :=
  if n = 0 then [(some 4607182418800017408, some 0)] else if n = 1 then barkerL 2 else if n = 2 then barkerL 3 else if n = 3 then barkerL 4 else if n = 4 then barkerL 5 else if n = 5 then barkerL 7
  else if n = 6 then barkerL 11 else if n = 7 then barkerL 13 else if n = 8 then frankL 4 else if n = 9 then frankL 8 else if n = 10 then chirpL 32 (ab 4620693217682128896) else if n = 11 then chirpL 64 (ab 4625196817309499392)
  else if n = 12 then stepsL order12 16 else []
def codeE (n : Int) : Int :=
  if n = 0 then 0 else if n = 1 then barkerE 2 else if n = 2 then barkerE 3 else if n = 3 then barkerE 4 else if n = 4 then barkerE 5 else if n = 5 then barkerE 7
  else if n = 6 then barkerE 11 else if n = 7 then barkerE 13 else if n = 8 then frankE 4 else if n = 9 then frankE 8 else if n = 10 then chirpE 32 (ab 4620693217682128896) else if n = 11 then chirpE 64 (ab 4625196817309499392)
  else if n = 12 then stepsE order12 16 else 40
theorem irow_new (w : World) (o : List Int) (t : TypeId) {cs : Array Value} {n cap : Nat} (hn : n = o.length) (h : cs = (o.map (Value.int .i64)).toArray) : IRow (w.alloc (.cells cs t)) (.slice (some ⟨w.heap.size, 0, none⟩) n cap) o := by
  subst h; subst hn
  refine ⟨_, cap, rfl, fun i hi => ⟨w.heap.size, 0, rfl, ?_⟩⟩
  rw [cell_of_row _ _ _ _ _ _ (heap_alloc_last _ _), getElem!_pos o i hi]
  simp [List.getElem?_eq_getElem hi]
theorem t11b (n : Int) (w : World) (m : Int) (hn : n = 1 ∧ m = 2 ∨ n = 2 ∧ m = 3 ∨ n = 3 ∧ m = 4 ∨ n = 4 ∧ m = 5 ∨ n = 5 ∧ m = 7 ∨ n = 6 ∧ m = 11 ∨ n = 7 ∧ m = 13) : Calls Tryz.prog 11 #[.int .i64 n] w (PL w (barkerL m) (barkerE m)) := by
  rcases hn with ⟨rfl, rfl⟩ | ⟨rfl, rfl⟩ | ⟨rfl, rfl⟩ | ⟨rfl, rfl⟩ | ⟨rfl, rfl⟩ | ⟨rfl, rfl⟩ | ⟨rfl, rfl⟩ <;>
  · go_enter Tryz.func11, Tryz.ntmps11
    go_wp2_with (go_at_call 25; refine (t25 _ _).mono ?_; rintro e w1 ⟨v, d, rfl, h1, h2, h3⟩)
    go_ret2
    exact ⟨_, _, rfl, h1, h2, h3⟩
theorem t11f (n : Int) (w : World) (m : Int) (hn : n = 8 ∧ m = 4 ∨ n = 9 ∧ m = 8) : Calls Tryz.prog 11 #[.int .i64 n] w (PL w (frankL m) (frankE m)) := by
  rcases hn with ⟨rfl, rfl⟩ | ⟨rfl, rfl⟩ <;>
  · go_enter Tryz.func11, Tryz.ntmps11
    go_wp2_with (go_at_call 26; refine (t26 _ _ (by omega)).mono ?_; rintro e w1 ⟨v, d, rfl, h1, h2, h3⟩)
    go_ret2
    exact ⟨_, _, rfl, h1, h2, h3⟩
theorem t11c (w : World) : Calls Tryz.prog 11 #[.int .i64 10] w (PL w (chirpL 32 (ab 4620693217682128896)) (chirpE 32 (ab 4620693217682128896))) := by
  go_enter Tryz.func11, Tryz.ntmps11
  go_wp2_with (go_at_call 27; refine (t27 _ _ _).mono ?_; rintro e w1 ⟨v, d, rfl, h1, h2, h3⟩)
  go_ret2
  exact ⟨_, _, rfl, h1, h2, h3⟩
theorem t11d (w : World) : Calls Tryz.prog 11 #[.int .i64 11] w (PL w (chirpL 64 (ab 4625196817309499392)) (chirpE 64 (ab 4625196817309499392))) := by
  go_enter Tryz.func11, Tryz.ntmps11
  go_wp2_with (go_at_call 27; refine (t27 _ _ _).mono ?_; rintro e w1 ⟨v, d, rfl, h1, h2, h3⟩)
  go_ret2
  exact ⟨_, _, rfl, h1, h2, h3⟩
theorem t11s (w : World) : Calls Tryz.prog 11 #[.int .i64 12] w (PL w (stepsL order12 16) (stepsE order12 16)) := by
  go_enter Tryz.func11, Tryz.ntmps11
  go_wp2_with (go_at_call 28; refine (t28 order12 _ _ _ (irow_new _ order12 _ rfl rfl) (by decide) (by omega)).mono ?_; intro e w1 hp; obtain ⟨v, d, rfl, h1, h2, h3⟩ := hp.under (Up.alloc _ _))
  go_ret2
  exact ⟨_, _, rfl, h1, h2, h3⟩
theorem t11z (w : World) : Calls Tryz.prog 11 #[.int .i64 0] w (PL w [(some 4607182418800017408, some 0)] 0) := by
  go_enter Tryz.func11, Tryz.ntmps11
  go_wp2
  go_ret2
  exact ⟨_, [(4607182418800017408, 0)], rfl, World.ownsRow_lit w #[.complex .f64 4607182418800017408 0] 1 (Nat.le_refl _) (by decide) rfl, Up.alloc _ _, by show _ = _; decide +kernel⟩
theorem t11n (n : Int) (w : World) (h : ¬ (0 ≤ n ∧ n ≤ 12)) : Calls Tryz.prog 11 #[.int .i64 n] w (PL w [] 40) := by
  have h0 : (n == 0) = false := by rw [beq_eq_false_iff_ne]; omega
  have h1 : (n == 1) = false := by rw [beq_eq_false_iff_ne]; omega
  have h2 : (n == 2) = false := by rw [beq_eq_false_iff_ne]; omega
  have h3 : (n == 3) = false := by rw [beq_eq_false_iff_ne]; omega
  have h4 : (n == 4) = false := by rw [beq_eq_false_iff_ne]; omega
  have h5 : (n == 5) = false := by rw [beq_eq_false_iff_ne]; omega
  have h6 : (n == 6) = false := by rw [beq_eq_false_iff_ne]; omega
  have h7 : (n == 7) = false := by rw [beq_eq_false_iff_ne]; omega
  have h8 : (n == 8) = false := by rw [beq_eq_false_iff_ne]; omega
  have h9 : (n == 9) = false := by rw [beq_eq_false_iff_ne]; omega
  have h10 : (n == 10) = false := by rw [beq_eq_false_iff_ne]; omega
  have h11 : (n == 11) = false := by rw [beq_eq_false_iff_ne]; omega
  have h12 : (n == 12) = false := by rw [beq_eq_false_iff_ne]; omega
  go_enter Tryz.func11, Tryz.ntmps11
  go_wp2
  go_ret2
  exact PL.none _ _
theorem t11 (n : Int) (w : World) : Calls Tryz.prog 11 #[.int .i64 n] w (PL w (codeL n) (codeE n)) := by
  by_cases h : 0 ≤ n ∧ n ≤ 12
  · obtain ⟨N, rfl⟩ := Int.eq_ofNat_of_zero_le h.1
    have hN : N ≤ 12 := by omega
    clear h
    match N, hN with
    | 0, _ => exact t11z w
    | 1, _ => exact t11b 1 w 2 (by omega)
    | 2, _ => exact t11b 2 w 3 (by omega)
    | 3, _ => exact t11b 3 w 4 (by omega)
    | 4, _ => exact t11b 4 w 5 (by omega)
    | 5, _ => exact t11b 5 w 7 (by omega)
    | 6, _ => exact t11b 6 w 11 (by omega)
    | 7, _ => exact t11b 7 w 13 (by omega)
    | 8, _ => exact t11f 8 w 4 (by omega)
    | 9, _ => exact t11f 9 w 8 (by omega)
    | 10, _ => exact t11c w
    | 11, _ => exact t11d w
    | 12, _ => exact t11s w
    | k + 13, h => omega
  · have e1 : codeL n = [] := by simp only [codeL]; repeat' rw [if_neg (by omega)]
    have e2 : codeE n = 40 := by simp only [codeE]; repeat' rw [if_neg (by omega)]
    rw [e1, e2]
    exact t11n n w h
end Go.Proofs.YtflngnnoibkkoaaGreat
/- The reference's points of a turn. -/
namespace Go.Proofs.YtflngnnoibkkoaaGreat.Rf
open Go.ChangeShapes Go.WideShapes Go.ChangeAt Go.RowKit Go.Fl Ieee
set_option maxRecDepth 200000
set_option maxHeartbeats 8000000
attribute [local go_sem] run_store_float run_store_complex call34 call33 run_neg fold_eq fold_ne fold_lt fold_gt abs_eq
theorem t112 (x : Nat) (w : World) : Calls Tryz.prog 112 #[.float .f64 x] w (FR w (wrapF (ab x))) := by
  go_enter Tryz.func112, Tryz.ntmps112
  go_wp2_with (first
    | (refine upon_fl (by simp) ?_; intro r n hr)
    | (go_at_call 51; refine (t51 _ _).mono ?_; rintro e w' ⟨rfl, rfl⟩)
    | (go_at_call 52; refine (t52 _ _).mono ?_; rintro e w' ⟨rfl, rfl⟩)
    | (go_at_call 81; refine (t81 _).mono ?_; rintro e w' ⟨rfl, rfl⟩)
    | (go_at_call 91; refine (t91 _ _).mono ?_; rintro e w' ⟨r, n, rfl, rfl, hr⟩))
  all_goals (go_ret; go_tidy; first | refine FR.mkN ?_ | refine FR.mk0 ?_)
  all_goals simp_all [wrapF, wholeF, fin, Hid, ab_neg]
  all_goals rfl
theorem t113 (l : List Nat) (m b off cap z : Nat) (w : World) (hl : l.length = m + 1) (hm : m < 1000)
    (hc : ∀ i, i < m + 1 → w.cell? ⟨b, off + i, none⟩ = some (.float .f64 (l.getD i 0))) :
    Calls Tryz.prog 113 #[.slice (some ⟨b, off, none⟩) (m + 1) cap, .float .f64 z] w (FR w (foldF l (ab z))) := by
  have hcm := hc m (by omega)
  have HL : Hid (l.length = m + 1) := hl
  clear hl
  go_enter Tryz.func113, Tryz.ntmps113
  go_wp2
  go_loopw [5, 6] (fun p i wr => ∃ k r n : Nat, k ≤ m ∧ i = .int .i64 ((k : Int) - 1) ∧ p = .float .f64 r ∧ wr = w.drewN n ∧ Hid (ab r = foldF (l.drop k) (ab z))) (fun _ i _ => (intOf i + 1).toNat)
  case atStart => exact ⟨m, _, 0, Nat.le_refl _, by go_num, rfl, rfl, (foldF_last l _ m HL.out).symm⟩
  case round =>
    obtain ⟨k, r, n, hk, rfl, rfl, rfl, hr⟩ := hrel
    rcases Nat.eq_zero_or_pos k with rfl | hp
    · go_wp2
      go_ret
      exact FR.mkN hr.out
    · obtain ⟨j, rfl⟩ := Nat.exists_eq_add_of_le' hp
      have hcj := hc j (by omega)
      rw [show ((j + 1 : Nat) : Int) - 1 = (j : Int) by omega]
      go_wp2_with (refine upon_fl (by simp) ?_; intro r n hr)
      go_roundw
      case rel =>
        refine ⟨j, _, _, by omega, rfl, rfl, rfl, ?_⟩
        have HL := HL.out
        show _ = _
        rw [foldF_step l _ j (by omega)]
        simp_all [Hid]
      case measure => simp [intOf]
theorem t140 (k n : Nat) (w : World) (hk : k < 100) : Calls Tryz.prog 140 #[.int .i64 k, .float .f64 n] w (FR w (quotientF k (ab n))) := by
  go_enter Tryz.func140, Tryz.ntmps140
  go_wp2_with (refine upon_fl (by simp) ?_; intro r n hr)
  all_goals (go_ret; go_tidy; refine FR.mkN ?_)
  all_goals simp_all [quotientF, Hid, ab_neg]
theorem t141 (k : Nat) (w : World) (hk : k < 100) : Calls Tryz.prog 141 #[.int .i64 k] w (FR w (factorialF (k - 1))) := by
  go_enter Tryz.func141, Tryz.ntmps141
  go_wp2
  go_loopw [3, 4] (fun f i wr => ∃ j r n : Nat, (j ≤ k - 1) ∧ i = .int .i64 ((j : Int) + 2) ∧ f = .float .f64 r ∧ wr = w.drewN n ∧ Hid (ab r = factorialF j)) (fun _ i _ => (k + 2 - intOf i).toNat)
  case atStart => exact ⟨0, _, 0, by omega, rfl, rfl, rfl, rfl⟩
  case round =>
    obtain ⟨j, r, n, hj, rfl, rfl, rfl, hr⟩ := hrel
    by_cases hlt : j + 2 ≤ k
    · go_wp2_with (refine upon_fl (by simp) ?_; intro r n hr)
      go_roundw
      case rel =>
        refine ⟨j + 1, _, _, by omega, by go_num, rfl, rfl, ?_⟩
        simp_all [Hid, factorialF]
      case measure => simp [intOf]; omega
    · go_wp2
      go_ret
      have : j = k - 1 := by omega
      subst this
      exact FR.mkN hr.out
theorem t141i (k : Int) (w : World) (h0 : 0 ≤ k) (hk : k < 100) : Calls Tryz.prog 141 #[.int .i64 k] w (FR w (factorialF (k.toNat - 1))) := by
  obtain ⟨K, rfl⟩ := Int.eq_ofNat_of_zero_le h0
  exact t141 K w (by omega)
theorem row_sines (w : World) : Calls Tryz.prog 114 #[.int .i64 0] w fun e w' => ∃ v, e = .returned v ∧ w'.ownsRow w.heap.size 22 1 v 9 (sineL.map (Value.float .f64)) ∧ Below w.heap.size w w' := by
  obtain ⟨i0, hi, hz0, hz1, hz2⟩ := info_parts info22
  go_enter Tryz.func114, Tryz.ntmps114
  go_wp2
  go_loopw [3, 5] (fun v i wr => ∃ k : Nat, k ≤ 9 ∧ i = .int .i64 k ∧ wr.ownsRow w.heap.size 22 1 v k ((sineL.take k).map (Value.float .f64)) ∧ Below w.heap.size w wr) (fun _ i _ => 9 - (intOf i).toNat)
  case atStart => exact ⟨0, by omega, rfl, World.ownsRow_nil _ _ _ _, Below.refl _ _⟩
  case round =>
    obtain ⟨k, hk, rfl, hown, hbel⟩ := hrel
    by_cases hlt : k < 9
    · go_wp2_with (first
        | (go_at_call 141; refine (t141i _ _ (by omega) (by omega)).mono ?_; rintro e w' ⟨f, n, rfl, rfl, hf⟩)
        | (go_at_call 140; refine (t140 _ _ _ (by omega)).mono ?_; rintro e w' ⟨r, n, rfl, rfl, hr⟩; have HR : Hid (sineL.getD k 0 = r) := sine_of hlt hf hr)
        | (at_builtin; refine wpList_append_own _ rfl _ _ 47 rfl w.heap.size 22 i0 (.float .f64 0) 1 8 Tryz.underlying47 hi hz0 hz1 hz2 rfl (by decide) _ _ _ rfl (hown.alloc _) ⟨wr.heap.size, 0, none⟩ 1 1 [.float .f64 r] rfl rfl ?c1 ?c2 ?c3 ?c4 ?c5 ?_))
      case c1 =>
        intro j u hj
        match j, hj with
        | 0, hj => simp at hj; subst hj; exact World.cell?_alloc_at _ _ _ _ rfl
      case c2 => intro u hu; simp at hu; subst hu; rfl
      case c3 => unfold maxLen; omega
      case c4 => omega
      case c5 => have := hbel.size; simp; omega
      · intro v' w1 hown' hgrow _
        have R := row_push sineL k (by exact hlt) HR hown hbel hown' hgrow
        clear hown' hgrow hown hbel
        go_wp2
        go_roundw
        case rel => exact ⟨k + 1, by omega, by go_num, R.1, R.2⟩
        case measure => simp [intOf]; omega
    · go_wp2
      obtain rfl : k = 9 := by omega
      go_ret
      exact ⟨_, rfl, hown, hbel⟩
theorem row_cosines (w : World) : Calls Tryz.prog 114 #[.int .i64 1] w fun e w' => ∃ v, e = .returned v ∧ w'.ownsRow w.heap.size 22 1 v 9 (cosineL.map (Value.float .f64)) ∧ Below w.heap.size w w' := by
  obtain ⟨i0, hi, hz0, hz1, hz2⟩ := info_parts info22
  go_enter Tryz.func114, Tryz.ntmps114
  go_wp2
  go_loopw [3, 5] (fun v i wr => ∃ k : Nat, k ≤ 9 ∧ i = .int .i64 k ∧ wr.ownsRow w.heap.size 22 1 v k ((cosineL.take k).map (Value.float .f64)) ∧ Below w.heap.size w wr) (fun _ i _ => 9 - (intOf i).toNat)
  case atStart => exact ⟨0, by omega, rfl, World.ownsRow_nil _ _ _ _, Below.refl _ _⟩
  case round =>
    obtain ⟨k, hk, rfl, hown, hbel⟩ := hrel
    by_cases hlt : k < 9
    · go_wp2_with (first
        | (go_at_call 141; refine (t141i _ _ (by omega) (by omega)).mono ?_; rintro e w' ⟨f, n, rfl, rfl, hf⟩)
        | (go_at_call 140; refine (t140 _ _ _ (by omega)).mono ?_; rintro e w' ⟨r, n, rfl, rfl, hr⟩; have HR : Hid (cosineL.getD k 0 = r) := cosine_of hlt hf hr)
        | (at_builtin; refine wpList_append_own _ rfl _ _ 47 rfl w.heap.size 22 i0 (.float .f64 0) 1 8 Tryz.underlying47 hi hz0 hz1 hz2 rfl (by decide) _ _ _ rfl (hown.alloc _) ⟨wr.heap.size, 0, none⟩ 1 1 [.float .f64 r] rfl rfl ?c1 ?c2 ?c3 ?c4 ?c5 ?_))
      case c1 =>
        intro j u hj
        match j, hj with
        | 0, hj => simp at hj; subst hj; exact World.cell?_alloc_at _ _ _ _ rfl
      case c2 => intro u hu; simp at hu; subst hu; rfl
      case c3 => unfold maxLen; omega
      case c4 => omega
      case c5 => have := hbel.size; simp; omega
      · intro v' w1 hown' hgrow _
        have R := row_push cosineL k (by exact hlt) HR hown hbel hown' hgrow
        clear hown' hgrow hown hbel
        go_wp2
        go_roundw
        case rel => exact ⟨k + 1, by omega, by go_num, R.1, R.2⟩
        case measure => simp [intOf]; omega
    · go_wp2
      obtain rfl : k = 9 := by omega
      go_ret
      exact ⟨_, rfl, hown, hbel⟩
theorem t115 (x : Nat) (w : World) : Calls Tryz.prog 115 #[.float .f64 x] w (FR w (cleanF (ab x))) := by
  go_enter Tryz.func115, Tryz.ntmps115
  go_wp2
  all_goals (go_ret; go_tidy; refine FR.mk0 ?_; simp_all [cleanF])
theorem t114s (w : World) : Calls Tryz.prog 114 #[.int .i64 0] w (RowR sineL 9 w) := (row_sines w).mono fun _ _ h => rowR_of (n := 8) rfl h
theorem t114c (w : World) : Calls Tryz.prog 114 #[.int .i64 1] w (RowR cosineL 9 w) := (row_cosines w).mono fun _ _ h => rowR_of (n := 8) rfl h
theorem fold31s (g cap z : Nat) (w : World) (h : Hid (∀ i, i < 9 → w.cell? ⟨g, 0 + i, none⟩ = some (.float .f64 (sineL.getD i 0)))) : Calls Tryz.prog 113 #[.slice (some ⟨g, 0, none⟩) 9 cap, .float .f64 z] w (FR w (foldF sineL (ab z))) :=
  t113 sineL 8 g 0 cap z w rfl (by omega) h
theorem fold31c (g cap z : Nat) (w : World) (h : Hid (∀ i, i < 9 → w.cell? ⟨g, 0 + i, none⟩ = some (.float .f64 (cosineL.getD i 0)))) : Calls Tryz.prog 113 #[.slice (some ⟨g, 0, none⟩) 9 cap, .float .f64 z] w (FR w (foldF cosineL (ab z))) :=
  t113 cosineL 8 g 0 cap z w rfl (by omega) h
/-- The way back with a struct of two floats that lies in memory. -/
theorem ret2 {fn : Func} {p : Tmp} (hres : fn.results = #[.cell p 82]) {w W : World} {c s : Option Nat} {tmps : Array Value} {r i n : Nat} {u v : Value} (hp : tmps.getD p undef = .pointer (some ⟨w.heap.size, 0, none⟩))
    (hk : W.heap[w.heap.size]? = some (.cells #[u, v] 82 (0, 0))) (hb : Below w.heap.size w W) (h1 : ab r = c) (h2 : ab i = s) :
    bodyPost Tryz.prog fn (SR w c s) .ret ⟨tmps, []⟩ (((W.drewN n).setCell ⟨w.heap.size, 0, none⟩ (.float .f64 r)).setCell ⟨w.heap.size, 1, none⟩ (.float .f64 i)) := by
  have e0 : (W.drewN n).heap[w.heap.size]? = some (.cells #[u, v] 82 (0, 0)) := hk
  have e1 := setCell_eq_setRow (W.drewN n) w.heap.size 0 #[u, v] 82 (0, 0) (.float .f64 r) e0
  have g1 := setRow_heap (W.drewN n) w.heap.size #[u, v] #[.float .f64 r, v] 82 (0, 0) e0
  have e2 := setCell_eq_setRow _ w.heap.size 1 #[.float .f64 r, v] 82 (0, 0) (.float .f64 i) g1
  have g2 := setRow_heap _ w.heap.size #[.float .f64 r, v] #[.float .f64 r, .float .f64 i] 82 (0, 0) g1
  refine bodyPost_ret (results_cell_row hres _ _ w.heap.size 82 #[.float .f64 r, .float .f64 i] (0, 0) _ hp ?_ Tryz.underlying82 rfl (by kernel_rfl)) rfl (SR.mk h1 h2 (((below_drewN hb n).setCell (Nat.le_refl _) _).setCell (Nat.le_refl _) _))
  rw [e1]
  show (((W.drewN n).setRow w.heap.size #[.float .f64 r, v]).setCell ⟨w.heap.size, 1, none⟩ (.float .f64 i)).heap[w.heap.size]? = _
  rw [e2]
  exact g2
set_option maxHeartbeats 4000000 in
theorem t71 (x : Nat) (w : World) : Calls Tryz.prog 71 #[.float .f64 x] w (SR w (turnC (ab x)) (turnS (ab x))) := by
  go_enter Tryz.func71, Tryz.ntmps71
  go_wp2_with (first
    | ((with_reducible refine upon_fl (by simp) ?_); intro r n hr)
    | (go_at_call 51; refine (t51 _ _).mono ?_; rintro e w' ⟨rfl, rfl⟩)
    | (go_at_call 81; refine (t81 _).mono ?_; rintro e w' ⟨rfl, rfl⟩)
    | (go_at_call 14; refine (t14 _ _).mono ?_; rintro e w' ⟨rfl, rfl⟩)
    | (go_at_call 112; refine (t112 _ _).mono ?_; rintro e w' ⟨r, n, rfl, rfl, hr⟩)
    | (go_at_call 115; refine (t115 _ _).mono ?_; rintro e w' ⟨r, n, rfl, rfl, hr⟩)
    | (go_at_call 114; (with_reducible refine (t114s _).mono ?_); rintro e w1 ⟨g, cap, rfl, hS, hb1⟩; have HK := keptA hb1; replace HK : Hid _ := HK)
    | (go_at_call 114; (with_reducible refine (t114c _).mono ?_); rintro e w2 ⟨g, cap, rfl, hC, hb2⟩; have HK2 := keptB HK hb2; obtain ⟨hk1, hk2, hk3, hk4⟩ := facts2 HK2; replace HK2 : Hid _ := HK2)
    | (go_at_call 113; (with_reducible refine (fold31s _ _ _ _ hS).mono ?_); rintro e w' ⟨r, n, rfl, rfl, hr⟩)
    | (go_at_call 113; (with_reducible refine (fold31c _ _ _ _ hC).mono ?_); rintro e w' ⟨r, n, rfl, rfl, hr⟩))
  all_goals (have hfin := wrap_fin ‹Hid (ab _ = wrapF (ab x))›; go_tidy)
  all_goals first
    | refine ret2 rfl rfl (by exact heap_alloc_last w _) ((Below.refl _ _).alloc (Nat.le_refl _) _) ?_ ?_
    | refine ret2 rfl rfl (by exact HK2.out) (below_chain hb1 hb2) ?_ ?_
  all_goals try clear hk1 hk2 hk3 hk4 HK2 hb2 hC HK hb1 hS
  all_goals simp_all [turnC, turnS, pointC, pointS, flipped, swapped, once, twice, ab_abs, ab_neg, Hid, eastC, eastS]
  all_goals rfl
theorem t70 (k n : Int) (w : World) (hn : -9223372036854775808 ≤ n) (hn' : n ≤ 9223372036854775807) : Calls Tryz.prog 70 #[.int .i64 k, .int .i64 n] w (SR w (unitC k n) (unitS k n)) := by
  by_cases h1 : n < 1
  · go_enter Tryz.func70, Tryz.ntmps70
    go_wp2
    exact bodyPost_ret (v := .agg #[.float .f64 0, .float .f64 0]) (by simp [results, Tryz.results70, go_sem]) rfl (SR.mk (by simp [unitC, h1]) (by simp [unitS, h1]) ((Below.refl _ _).alloc (Nat.le_refl _) _))
  · have b1 := Int.tmod_lt_of_pos k (show 0 < n by omega)
    have b2 : -n < k.tmod n := Int.lt_tmod_of_pos k (show 0 < n by omega)
    go_enter Tryz.func70, Tryz.ntmps70
    go_wp2_with (first
      | ((with_reducible refine upon_fl (by simp) ?_); intro r n hr)
      | (go_at_call 71; refine (t71 _ _).mono ?_; rintro e w1 ⟨r, s, rfl, hr, hs, hu⟩; have HK := keptA hu; obtain ⟨hk1, hk2, hk3, hk4⟩ := facts2 HK; replace HK : Hid _ := HK))
    all_goals (go_tidy; refine ret2 (n := 0) rfl rfl (by exact HK.out) ((below_drewN ((Below.refl _ _).alloc (Nat.le_refl _) _) _).trans (hu.mono (by simp))) (unit_C (by assumption) (by assumption) (by omega) ?_) (unit_S (by assumption) (by assumption) (by omega) ?_) <;> (simp only [unitR]; repeat' split) <;> omega)
end Go.Proofs.YtflngnnoibkkoaaGreat.Rf
/- The order of floats by their bits: a key that rises as the number does, -0 ahead of +0, NaN behind all. No program is spoken of here. -/
namespace Go.Fl
open Ieee Go.RowKit
set_option maxRecDepth 200000
set_option maxHeartbeats 8000000

/-- A rung's number, in units of the least place. -/
def mag (r : Nat) : Nat := if r < 2 ^ 52 then r else (2 ^ 52 + r % 2 ^ 52) * 2 ^ (r / 2 ^ 52 - 1)
theorem mag_lt {a b : Nat} (h : a < b) : mag a < mag b := by
  unfold mag
  have pa : 0 < 2 ^ (a / 2 ^ 52 - 1) := Nat.two_pow_pos _
  by_cases hb : b < 2 ^ 52
  · rw [if_pos (by omega), if_pos hb]; exact h
  · rw [if_neg hb]
    have hb1 : 1 ≤ b / 2 ^ 52 := by omega
    have pb : 0 < 2 ^ (b / 2 ^ 52 - 1) := Nat.two_pow_pos _
    have hbm : 2 ^ 52 * 2 ^ (b / 2 ^ 52 - 1) ≤ (2 ^ 52 + b % 2 ^ 52) * 2 ^ (b / 2 ^ 52 - 1) := Nat.mul_le_mul_right _ (Nat.le_add_right _ _)
    by_cases ha : a < 2 ^ 52
    · rw [if_pos ha]
      have : 2 ^ 52 * 1 ≤ 2 ^ 52 * 2 ^ (b / 2 ^ 52 - 1) := Nat.mul_le_mul_left _ pb
      omega
    · rw [if_neg ha]
      have hq : a / 2 ^ 52 ≤ b / 2 ^ 52 := Nat.div_le_div_right (by omega)
      rcases Nat.lt_or_ge (a / 2 ^ 52) (b / 2 ^ 52) with hlt | hge
      · have h1 : (2 ^ 52 + a % 2 ^ 52) * 2 ^ (a / 2 ^ 52 - 1) < 2 ^ 53 * 2 ^ (a / 2 ^ 52 - 1) := Nat.mul_lt_mul_of_pos_right (by omega) pa
        have h2 : 2 ^ 53 * 2 ^ (a / 2 ^ 52 - 1) = 2 ^ 52 * 2 ^ (a / 2 ^ 52) := by
          obtain ⟨q, hq⟩ : ∃ q, a / 2 ^ 52 = q + 1 := ⟨a / 2 ^ 52 - 1, by omega⟩
          rw [hq]; simp only [Nat.add_sub_cancel]; rw [Nat.pow_succ 2 q]; omega
        have h3 : 2 ^ 52 * 2 ^ (a / 2 ^ 52) ≤ 2 ^ 52 * 2 ^ (b / 2 ^ 52 - 1) := Nat.mul_le_mul_left _ (Nat.pow_le_pow_right (by omega) (by omega))
        omega
      · have he : a / 2 ^ 52 = b / 2 ^ 52 := by omega
        rw [he]
        exact Nat.mul_lt_mul_of_pos_right (by omega) pb
theorem mag_zero (r : Nat) (h : mag r = 0) : r = 0 := by
  rcases Nat.eq_zero_or_pos r with h0 | h0
  · exact h0
  · have := mag_lt h0; omega

def sgn (s : Bool) (m : Nat) : Int := if s then -(m : Int) else m
/-- A number's datum, in one unit. -/
theorem read_num {x : Nat} {s : Bool} {m : Nat} {e : Int} (h : double.read x = .number s m e) :
    s = (x / 2 ^ 63 % 2 == 1) ∧ x % 2 ^ 63 < 0x7ff0000000000000 ∧ -1074 ≤ e ∧ m * 2 ^ (e + 1074).toNat = mag (x % 2 ^ 63) := by
  unfold Format.read at h
  have e1 : double.signWeight = 2 ^ 63 := rfl
  have e2 : double.binade = 2 ^ 52 := rfl
  have e3 : double.infRung = 0x7ff0000000000000 := rfl
  have e4 : double.leastPlace = -1074 := rfl
  simp only [e1, e2, e3, e4] at h
  unfold mag
  split at h
  · rename_i h1
    injection h with hs hm he
    subst hs; subst hm; subst he
    rw [if_pos h1]
    exact ⟨rfl, by omega, by omega, by simp⟩
  · rename_i h1
    split at h
    · rename_i h2
      injection h with hs hm he
      subst hs; subst hm; subst he
      rw [if_neg h1]
      refine ⟨rfl, h2, by omega, ?_⟩
      congr 2
      omega
    · split at h <;> cases h

theorem read_inf {x : Nat} {s : Bool} (h : double.read x = .infinity s) : s = (x / 2 ^ 63 % 2 == 1) ∧ x % 2 ^ 63 = 0x7ff0000000000000 := by
  unfold Format.read at h
  have e1 : double.signWeight = 2 ^ 63 := rfl
  have e2 : double.binade = 2 ^ 52 := rfl
  have e3 : double.infRung = 0x7ff0000000000000 := rfl
  simp only [e1, e2, e3] at h
  split at h
  · cases h
  · split at h
    · cases h
    · split at h
      · injection h with hs; exact ⟨hs.symm, by assumption⟩
      · cases h

/-- Where a float stands, by sign and rung. -/
def lin (x : Nat) : Int := sgn (x / 2 ^ 63 % 2 == 1) (x % 2 ^ 63)

theorem signed_scale (s : Bool) (m a b : Nat) : signed s m a * (2 ^ b : Nat) = sgn s (m * 2 ^ (a + b)) := by
  unfold signed sgn
  rw [Nat.shiftLeft_eq, Nat.pow_add]
  cases s <;> simp [Int.mul_assoc, Int.neg_mul]

theorem compare_scale (x y : Int) (k : Nat) (hk : 0 < k) : compare x y = compare (x * k) (y * k) := by
  rcases Int.lt_trichotomy x y with h | h | h
  · rw [Int.compare_eq_lt.2 h, Int.compare_eq_lt.2 (Int.mul_lt_mul_of_pos_right h (by omega))]
  · subst h; simp
  · rw [Int.compare_eq_gt.2 h, Int.compare_eq_gt.2 (Int.mul_lt_mul_of_pos_right h (by omega))]

theorem sgn_mono (s t : Bool) (a b : Nat) : compare (sgn s (mag a)) (sgn t (mag b)) = compare (sgn s a) (sgn t b) := by
  have h0 : mag 0 = 0 := rfl
  have za : mag a = 0 → a = 0 := mag_zero a
  have zb : mag b = 0 → b = 0 := mag_zero b
  have tri : (a < b ∧ mag a < mag b) ∨ (a = b ∧ mag a = mag b) ∨ (b < a ∧ mag b < mag a) := by
    rcases Nat.lt_trichotomy a b with h | h | h
    · exact Or.inl ⟨h, mag_lt h⟩
    · exact Or.inr (Or.inl ⟨h, by rw [h]⟩)
    · exact Or.inr (Or.inr ⟨h, mag_lt h⟩)
  have za' : a = 0 → mag a = 0 := fun h => by rw [h]; rfl
  have zb' : b = 0 → mag b = 0 := fun h => by rw [h]; rfl
  generalize mag a = A at *
  generalize mag b = B at *
  have key : ∀ (p q p' q' : Int), (p < q ↔ p' < q') → (q < p ↔ q' < p') → compare p q = compare p' q' := by
    intro p q p' q' h1 h2
    rcases Int.lt_trichotomy p q with h | h | h
    · rw [Int.compare_eq_lt.2 h, Int.compare_eq_lt.2 (h1.1 h)]
    · have : p' = q' := by
        rcases Int.lt_trichotomy p' q' with h' | h' | h'
        · exact absurd (h1.2 h') (by omega)
        · exact h'
        · exact absurd (h2.2 h') (by omega)
      rw [Int.compare_eq_eq.2 h, Int.compare_eq_eq.2 this]
    · rw [Int.compare_eq_gt.2 h, Int.compare_eq_gt.2 (h2.1 h)]
  apply key <;> cases s <;> cases t <;> simp only [sgn, if_true, if_false, Bool.false_eq_true] <;> omega

/-- THE ORDER OF NUMBERS IS THAT OF THEIR SIGNS AND RUNGS. -/
theorem order_lin {x y : Nat} (hx : isN x = false) (hy : isN y = false) : double.order x y = some (compare (lin x) (lin y)) := by
  have hi : ∀ s : Bool, sgn s 0x7ff0000000000000 = if s then (-0x7ff0000000000000 : Int) else 0x7ff0000000000000 := fun s => by cases s <;> rfl
  unfold Format.order lin
  rcases not_nan hx with ⟨s, m, i, ex⟩ | ⟨s, ex⟩ <;> rcases not_nan hy with ⟨t, n, j, ey⟩ | ⟨t, ey⟩
  · obtain ⟨hs, _, hi1, hm⟩ := read_num ex
    obtain ⟨ht, _, hj1, hn⟩ := read_num ey
    rw [ex, ey, ← hs, ← ht]
    simp only [Datum.order]
    rw [← sgn_mono, ← hm, ← hn]
    congr 1
    generalize hb : min i j = base
    have hb1 : -1074 ≤ base := by omega
    rw [compare_scale _ _ (2 ^ (base + 1074).toNat) (Nat.two_pow_pos _), signed_scale, signed_scale]
    congr 3 <;> congr 1 <;> omega
  · obtain ⟨hs, hr, _, _⟩ := read_num ex
    obtain ⟨ht, hq⟩ := read_inf ey
    rw [ex, ey, ← hs, ← ht, hq]
    simp only [Datum.order]
    congr 1
    clear hs
    cases t <;> cases s <;> simp only [Bool.false_eq_true, if_false, if_true, sgn] <;> first | (rw [Int.compare_eq_lt.2]; omega) | (rw [Int.compare_eq_gt.2]; omega)
  · obtain ⟨hs, hq⟩ := read_inf ex
    obtain ⟨ht, hr, _, _⟩ := read_num ey
    rw [ex, ey, ← hs, ← ht, hq]
    simp only [Datum.order]
    congr 1
    clear hs
    cases t <;> cases s <;> simp only [Bool.false_eq_true, if_false, if_true, sgn] <;> first | (rw [Int.compare_eq_lt.2]; omega) | (rw [Int.compare_eq_gt.2]; omega)
  · obtain ⟨hs, hq⟩ := read_inf ex
    obtain ⟨ht, hr⟩ := read_inf ey
    rw [ex, ey, ← hs, ← ht, hq, hr]
    simp only [Datum.order]
    cases s <;> cases t <;> rfl

/-- THE KEY: NaN last; else by sign and rung, -0 ahead of +0. -/
def key (x : Nat) : Nat := if isN x then 2 ^ 64 - 1 else if x < 2 ^ 63 then x + 2 ^ 63 else 2 ^ 64 - 1 - x
theorem key_lt {x : Nat} (h : x < 2 ^ 64) : key x < 2 ^ 64 := by
  unfold key; split <;> (try split) <;> omega
theorem num_mod {x : Nat} (h : isN x = false) : x % 2 ^ 63 ≤ 0x7ff0000000000000 := by
  rw [isN_mod] at h; simpa using h
theorem lin_low {x : Nat} (h : x < 2 ^ 63) : lin x = x := by
  unfold lin sgn
  have h1 : x / 2 ^ 63 % 2 = 0 := by omega
  have h2 : x % 2 ^ 63 = x := by omega
  rw [h1, h2]; rfl
/-- The order as a number: -1, 0, 1. -/
def cmpK (x y : Nat) : Int := if key x < key y then -1 else if key y < key x then 1 else 0
theorem key_nan {x : Nat} (h : isN x = true) : key x = 2 ^ 64 - 1 := by unfold key; rw [if_pos h]
theorem key_num {x : Nat} (h : isN x = false) (hx : x < 2 ^ 64) : key x < 2 ^ 64 - 1 := by
  have := num_mod h
  unfold key; rw [h]; simp only [Bool.false_eq_true, if_false]; split <;> omega
def ltK (x y : Nat) : Bool := decide (key x < key y)
end Go.Fl
/- What the document says of pulses: the reference's Chirp, Frank, Steps, Barker, Code. -/
namespace Go.Proofs.YtflngnnoibkkoaaGreat.Rf
open Go.ChangeShapes Go.WideShapes Go.ChangeAt Go.RowKit Go.Fl Ieee
set_option maxRecDepth 200000
set_option maxHeartbeats 8000000
attribute [local go_sem] run_store_float run_store_complex call34 call33 run_neg fold_eq fold_ne fold_lt fold_gt abs_eq

theorem fin_is (x : Nat) : (eqF (ab x) (ab x) && (ltF (ab x) (ab 9218868437227405311) || eqF (ab x) (ab 9218868437227405311)) && (gtF (ab x) (ab 18442240474082181119) || eqF (ab x) (ab 18442240474082181119))) = fin (ab x) := by
  cases hN : isN x with
  | true => simp [fin, ab_none hN, eqF, ord]
  | false =>
    have hA : isN (abs x) = false := by rw [isN_abs]; exact hN
    have e1 : ord (ab x) (ab 9218868437227405311) = some (compare (lin x) (lin 9218868437227405311)) := by
      rw [← order_ab]; exact order_lin hN (by decide +kernel)
    have e2 : ord (ab x) (ab 18442240474082181119) = some (compare (lin x) (lin 18442240474082181119)) := by
      rw [← order_ab]; exact order_lin hN (by decide +kernel)
    have e3 : ord ((ab x).map abs) (ab 9218868437227405311) = some (compare (lin (abs x)) (lin 9218868437227405311)) := by
      rw [← ab_abs, ← order_ab]; exact order_lin hA (by decide +kernel)
    have l1 : lin 9218868437227405311 = 9218868437227405311 := by decide +kernel
    have l2 : lin 18442240474082181119 = -9218868437227405311 := by decide +kernel
    have l3 : lin (abs x) = ((x % 2 ^ 63 : Nat) : Int) := by
      have : abs x < 2 ^ 63 := Nat.mod_lt _ (by decide)
      rw [lin_low this]; rfl
    have l4 : lin x = ((x % 2 ^ 63 : Nat) : Int) ∨ lin x = -((x % 2 ^ 63 : Nat) : Int) := by
      unfold lin sgn; split <;> simp
    unfold fin
    rw [eqF_self, hN]
    unfold ltF eqF gtF
    rw [e1, e2, e3, l1, l2, l3]
    generalize x % 2 ^ 63 = m at *
    rw [Bool.eq_iff_iff]
    rcases l4 with l4 | l4 <;> rw [l4] <;> simp only [Int.compare_eq_ite_lt, Bool.not_false, Bool.true_and, Bool.and_eq_true, Bool.or_eq_true, Bool.not_eq_true', beq_iff_eq, Option.some.injEq] <;> (repeat' split) <;> simp <;> omega
theorem t23 (x : Nat) (w : World) : Calls Tryz.prog 23 #[.float .f64 x] w fun e w' => e = .returned (.bool (fin (ab x))) ∧ w' = w := by
  go_enter Tryz.func23, Tryz.ntmps23
  go_wp2
  all_goals (go_ret; go_tidy; refine ⟨?_, rfl⟩; rw [← fin_is])
  all_goals simp_all

/-- A row that grows. -/
theorem info47 : (Tryz.prog.info? 82).map (fun i => (i.zero, i.size, i.bytes)) = some (some (.agg #[.float .f64 0, .float .f64 0]), 2, 16) := by kernel_rfl
structure Grow (w0 w : World) (v : Value) (F : Nat → Option Nat × Option Nat) (k : Nat) : Prop where
  row : ∃ O : List (Nat × Nat), O.length = k ∧ w.ownsRow w0.heap.size 82 2 v k (O.flatMap se) ∧ ∀ j, j < k → ab2 O[j]! = F j
  below : Up w0 w
theorem Grow.nil (w : World) (F : Nat → Option Nat × Option Nat) : Grow w w (.slice none 0 0) F 0 := ⟨⟨[], rfl, World.ownsRow_nil _ _ _ _, fun j hj => by omega⟩, Up.refl _⟩
theorem Grow.up {w0 w w' : World} {v : Value} {k : Nat} {F : Nat → Option Nat × Option Nat} (h : Grow w0 w v F k) (hu : Up w w') : Grow w0 w' v F k := by
  obtain ⟨⟨O, h1, h2, h3⟩, h4⟩ := h
  exact ⟨⟨O, h1, owns_up h2 hu, h3⟩, h4.trans hu⟩
theorem Grow.push {w0 w wa w1 : World} {v v' : Value} {k x y : Nat} {F : Nat → Option Nat × Option Nat} {O : List (Nat × Nat)} (h1 : O.length = k) (h2 : w.ownsRow w0.heap.size 82 2 v k (O.flatMap se)) (h3 : ∀ j, j < k → ab2 O[j]! = F j) (h4 : Up w0 w) (hu : Up w wa)
    (hown : w1.ownsRow w0.heap.size 82 2 v' (k + 1) (O.flatMap se ++ [.float .f64 x, .float .f64 y])) (hg : wa.grownBy w1 v.ownBlock) (hx : ab x = (F k).1) (hy : ab y = (F k).2) : Grow w0 w1 v' F (k + 1) := by
  obtain ⟨a1, a2⟩ := srow_push h2 h4 hu hown hg
  refine ⟨⟨O ++ [(x, y)], by simp [h1], a1, fun j hj => ?_⟩, a2⟩
  rcases Nat.lt_or_ge j k with hlt | hge
  · rw [getElem!_pos _ j (by simp; omega), List.getElem_append_left (by omega), ← getElem!_pos O j (by omega)]
    exact h3 j hlt
  · obtain rfl : j = k := by omega
    rw [getElem!_pos _ j (by simp; omega), List.getElem_append_right (by omega)]
    simp only [h1, Nat.sub_self, List.getElem_cons_zero]
    exact Prod.ext hx hy
theorem Grow.ql {w0 w : World} {v : Value} {k : Nat} {F : Nat → Option Nat × Option Nat} (h : Grow w0 w v F k) {L : List (Option Nat × Option Nat)} (hL : L = (List.range k).map F) : QL w0 L 0 (.returned (.tuple #[v, .int .i64 0])) w := by
  obtain ⟨⟨O, rfl, h2, h3⟩, h4⟩ := h
  refine ⟨v, O, rfl, h2, h4, ?_⟩
  show _ = _
  rw [hL]
  refine List.ext_getElem (by simp) fun i hi _ => ?_
  have hi' : i < O.length := by simpa using hi
  have := h3 i hi'
  rw [getElem!_pos O i hi'] at this
  simpa using this
theorem QL.none (w : World) (c : Int) : QL w [] c (.returned (.tuple #[.slice none 0 0, .int .i64 c])) w := ⟨_, [], rfl, World.ownsRow_nil _ _ _ _, Up.refl _, rfl⟩
theorem up_new (w : World) (o o2 : Obj) : Up w ((w.alloc o).alloc o2) := (Up.alloc _ _).trans (Up.alloc _ _)
theorem cell_new2b (w : World) (o : Obj) (x y : Nat) (t : TypeId) : ∀ (j : Nat) (u : Value), [Value.float .f64 x, .float .f64 y][j]? = some u → ((w.alloc o).alloc (.cells #[.float .f64 x, .float .f64 y] t)).cell? ((⟨w.heap.size + 1, 0, none⟩ : Addr).add j) = some u := by
  have e : w.heap.size + 1 = (w.alloc o).heap.size := by simp
  rw [e]
  exact cell_new2 (w.alloc o) x y t
set_option maxHeartbeats 1000000 in
theorem t45ok (N x : Nat) (w : World) (h1 : 1 ≤ N) (h2 : N ≤ 16384) (hf : fin (ab x) = true) : Calls Tryz.prog 45 #[.int .i64 N, .float .f64 x] w (QL w ((List.range N).map (chirpF N (ab x))) 0) := by
  obtain ⟨i0, hi, hz0, hz1, hz2⟩ := info_parts info47
  have HT : Hid (∀ w, Calls Tryz.prog 23 #[.float .f64 x] w fun e w' => e = .returned (.bool true) ∧ w' = w) := fun w => by rw [← hf]; exact t23 x w
  clear hf
  go_enter Tryz.func45, Tryz.ntmps45
  go_wp2_with (go_at_call 23; refine (HT.out _).mono ?_; rintro e w' ⟨rfl, rfl⟩)
  go_loopw [7, 8, 9, 10, 11] (fun v i _ _ _ wr => ∃ k : Nat, k ≤ N ∧ i = .int .i64 k ∧ Hid (Grow w' wr v (chirpF N (ab x)) k)) (fun _ i _ _ _ _ => N - (intOf i).toNat)
  case atStart => exact ⟨0, by omega, rfl, Grow.nil _ _⟩
  case round =>
    obtain ⟨k, hk, rfl, HF⟩ := hrel
    by_cases hlt : k < N
    · have m1 := mul_le (show k < 16384 by omega)
      have m2 : (0 : Int) ≤ (k : Int) * k := Int.mul_nonneg (by omega) (by omega)
      have hkz : (k : Int) < (N : Int) := by omega
      go_wp2_with (first
        | ((with_reducible refine upon_fl (by simp) ?_); intro r n hr)
        | (go_at_call 71; refine (t71 _ _).mono ?_; rintro e w2 ⟨c, s, rfl, hc, hs, hu⟩; have HF2 : Hid (Grow w' w2 u7 (chirpF N (ab x)) k) := HF.out.up (Up.trans (Up.drewN _ _) hu); obtain ⟨⟨O, o1, o2, o3⟩, o4⟩ := HF2.out; have sz : w'.heap.size ≤ w2.heap.size := o4.size; clear HF hu)
        | (at_builtin; refine wpList_append_own _ rfl _ _ 56 rfl w'.heap.size 82 i0 (.agg #[.float .f64 0, .float .f64 0]) 2 16 Tryz.underlying56 hi hz0 hz1 hz2 rfl (by decide) _ _ _ rfl (owns_up o2 (up_new _ _ _)) ⟨w2.heap.size + 1, 0, none⟩ 1 1 [.float .f64 c, .float .f64 s] rfl rfl (cell_new2b _ _ _ _ _) (two_cell _ _) (by unfold maxLen; omega) (by omega) (by simp; omega) ?_))
      intro v' w3 hown' hgrow _
      have HG : Hid (Grow w' w3 v' (chirpF N (ab x)) (k + 1)) := Grow.push o1 o2 o3 o4 (up_new _ _ _) hown' hgrow (by simp_all [chirpF, chirpX, Hid]) (by simp_all [chirpF, chirpX, Hid])
      clear hown' hgrow o1 o2 o3 o4 HF2
      go_wp2
      go_roundw
      case rel => exact ⟨k + 1, by omega, by go_num, HG⟩
      case measure => simp [intOf]; omega
    · obtain rfl : N = k := by omega
      go_wp2
      go_ret2
      exact HF.out.ql rfl
theorem t45 (n : Int) (x : Nat) (w : World) : Calls Tryz.prog 45 #[.int .i64 n, .float .f64 x] w (QL w (chirpL n (ab x)) (chirpE n (ab x))) := by
  by_cases h1 : n < 1
  · rw [chirpL, chirpE, if_pos h1, if_pos h1]
    go_enter Tryz.func45, Tryz.ntmps45
    go_wp2
    go_ret2
    exact QL.none _ _
  · by_cases h2 : n > 16384
    · rw [chirpL, chirpE, if_neg h1, if_neg h1, if_pos h2, if_pos h2]
      go_enter Tryz.func45, Tryz.ntmps45
      go_wp2
      go_ret2
      exact QL.none _ _
    · obtain ⟨N, rfl⟩ := Int.eq_ofNat_of_zero_le (show 0 ≤ n by omega)
      rw [chirpL, chirpE, if_neg h1, if_neg h1, if_neg h2, if_neg h2]
      cases hf : fin (ab x)
      · have HT : Hid (∀ w, Calls Tryz.prog 23 #[.float .f64 x] w fun e w' => e = .returned (.bool false) ∧ w' = w) := fun w => by rw [← hf]; exact t23 x w
        clear hf
        go_enter Tryz.func45, Tryz.ntmps45
        go_wp2_with (go_at_call 23; refine (HT.out _).mono ?_; rintro e w' ⟨rfl, rfl⟩)
        go_ret2
        exact QL.none _ _
      · exact t45ok N x w (by omega) (by omega) hf
end Go.Proofs.YtflngnnoibkkoaaGreat.Rf
/- What the document says of pulses: the reference's Frank, Steps, Barker, Code. -/
namespace Go.Proofs.YtflngnnoibkkoaaGreat.Rf
open Go.ChangeShapes Go.WideShapes Go.ChangeAt Go.RowKit Go.Fl Ieee
set_option maxRecDepth 200000
set_option maxHeartbeats 8000000
attribute [local go_sem] run_store_float run_store_complex call34 call33 run_neg fold_eq fold_ne fold_lt fold_gt abs_eq

set_option maxHeartbeats 1000000 in
theorem t44ok (m : Nat) (w : World) (h1 : 1 ≤ m) (h2 : m ≤ 128) : Calls Tryz.prog 44 #[.int .i64 m] w (QL w ((List.range (m * m)).map (frankF m)) 0) := by
  obtain ⟨i0, hi, hz0, hz1, hz2⟩ := info_parts info47
  have hmm : m * m ≤ 16384 := Nat.le_trans (Nat.mul_le_mul h2 h2) (by omega)
  obtain ⟨M, hM⟩ : ∃ M, M = m * m := ⟨_, rfl⟩
  rw [← hM] at hmm ⊢
  have HMM : Hid (M = m * m) := hM
  clear hM
  go_enter Tryz.func44, Tryz.ntmps44
  go_wp2
  go_loopw [4, 5, 6, 7] (fun v vi _ _ wr => ∃ i : Nat, i ≤ m ∧ vi = .int .i64 i ∧ Hid (Grow w wr v (frankF m) (i * m))) (fun _ vi _ _ _ => m - (intOf vi).toNat)
  case atStart => exact ⟨0, by omega, rfl, by rw [Nat.zero_mul]; exact Grow.nil _ _⟩
  case round =>
    obtain ⟨i, hi', rfl, HF⟩ := hrel
    by_cases hlt : i < m
    · have hiz : (i : Int) < (m : Int) := by omega
      obtain ⟨q, hq⟩ : ∃ q, q = i * m := ⟨_, rfl⟩
      have hqm : q + m ≤ M := by
        rw [hq, HMM.out, ← Nat.succ_mul]; exact Nat.mul_le_mul_right _ hlt
      have HQ : Hid (q = i * m) := hq
      rw [← hq] at HF
      clear hq
      go_wp2
      go_loopw [4, 6, 7] (fun v vj _ wr => ∃ j : Nat, j ≤ m ∧ vj = .int .i64 j ∧ Hid (Grow w wr v (frankF m) (q + j))) (fun _ vj _ _ => m - (intOf vj).toNat)
      case atStart => exact ⟨0, by omega, rfl, HF⟩
      case round =>
        clear HF
        obtain ⟨j, hj', rfl, HF⟩ := hrel
        by_cases hlt2 : j < m
        · have hjz : (j : Int) < (m : Int) := by omega
          obtain ⟨p, hp⟩ : ∃ p, p = q + j := ⟨_, rfl⟩
          have hpM : p < M := by omega
          obtain ⟨r, hr⟩ : ∃ r, r = i * j := ⟨_, rfl⟩
          have er : (i : Int) * j = r := by rw [hr]; exact (Int.natCast_mul _ _).symm
          have hr2 : r ≤ 16384 := by rw [hr]; exact Nat.le_trans (Nat.mul_le_mul (Nat.le_of_lt hlt) (Nat.le_of_lt hlt2)) (by rw [← HMM.out]; omega)
          have HU : Hid (frankF m p = unitP r m) := by
            show _ = _
            rw [hp, HQ.out, hr]; exact frank_at hlt2
          have HP : Hid (p = q + j) := hp
          rw [← hp] at HF
          clear hp hr
          go_wp2_with (first
            | (go_at_call 70; refine (t70 _ _ _ (by omega) (by omega)).mono ?_; rintro e w2 ⟨c, s, rfl, hc, hs, hu⟩; have HF2 : Hid (Grow w w2 u4 (frankF m) p) := HF.out.up hu; obtain ⟨⟨O, o1, o2, o3⟩, o4⟩ := HF2.out; have sz : w.heap.size ≤ w2.heap.size := o4.size; clear HF hu)
            | (at_builtin; refine wpList_append_own _ rfl _ _ 56 rfl w.heap.size 82 i0 (.agg #[.float .f64 0, .float .f64 0]) 2 16 Tryz.underlying56 hi hz0 hz1 hz2 rfl (by decide) _ _ _ rfl (owns_up o2 (up_new _ _ _)) ⟨w2.heap.size + 1, 0, none⟩ 1 1 [.float .f64 c, .float .f64 s] rfl rfl (cell_new2b _ _ _ _ _) (two_cell _ _) (by unfold maxLen; omega) (by omega) (by simp; omega) ?_))
          intro v' w3 hown' hgrow _
          have HG : Hid (Grow w w3 v' (frankF m) (q + (j + 1))) := by
            rw [← Nat.add_assoc, ← HP.out]
            exact Grow.push o1 o2 o3 o4 (up_new _ _ _) hown' hgrow (by rw [HU.out]; exact hc.out) (by rw [HU.out]; exact hs.out)
          clear hown' hgrow o1 o2 o3 o4 HF2
          go_wp2
          go_roundw
          case rel => exact ⟨j + 1, by omega, by go_num, HG⟩
          case measure => simp [intOf]; omega
        · obtain rfl : m = j := by omega
          go_wp2
          go_roundw
          case rel => exact ⟨i + 1, by omega, by go_num, by rw [Nat.succ_mul, ← HQ.out]; exact HF⟩
          case measure => simp [intOf]; omega
    · obtain rfl : m = i := by omega
      go_wp2
      go_ret2
      exact Grow.ql (by rw [← HMM.out] at HF; exact HF.out) rfl
theorem t44 (m : Int) (w : World) : Calls Tryz.prog 44 #[.int .i64 m] w (QL w (frankL m) (frankE m)) := by
  by_cases h1 : m < 1
  · rw [frankL, frankE, if_pos h1, if_pos h1]
    go_enter Tryz.func44, Tryz.ntmps44
    go_wp2
    go_ret2
    exact QL.none _ _
  · by_cases h2 : m > 128
    · rw [frankL, frankE, if_neg h1, if_neg h1, if_pos h2, if_pos h2]
      go_enter Tryz.func44, Tryz.ntmps44
      go_wp2
      go_ret2
      exact QL.none _ _
    · obtain ⟨N, rfl⟩ := Int.eq_ofNat_of_zero_le (show 0 ≤ m by omega)
      rw [frankL, frankE, if_neg h1, if_neg h1, if_neg h2, if_neg h2]
      exact t44ok N w (by omega) (by omega)

theorem tmod_emod {k n : Int} (h1 : 1 ≤ n) : (if k.tmod n < 0 then k.tmod n + n else k.tmod n) = k % n := by
  have e : k.tmod n = k - n * k.tdiv n := Int.tmod_def k n
  have b1 := Int.tmod_lt_of_pos k (show 0 < n by omega)
  have b2 : -n < k.tmod n := Int.lt_tmod_of_pos k (show 0 < n by omega)
  split
  · rename_i h
    have : (k.tmod n + n) % n = k % n := by
      rw [e, Int.add_emod_right, Int.sub_mul_emod_self_left]
    rw [← this, Int.emod_eq_of_lt (by omega) (by omega)]
  · rename_i h
    have : (k.tmod n) % n = k % n := by
      rw [e, Int.sub_mul_emod_self_left]
    rw [← this, Int.emod_eq_of_lt (by omega) (by omega)]
theorem t72 (k n : Int) (w : World) (h1 : 1 ≤ n) (h2 : n ≤ 4611686018427387904) : Calls Tryz.prog 72 #[.int .i64 k, .int .i64 n] w fun e w' => e = .returned (.int .i64 (k % n)) ∧ w' = w := by
  have b1 := Int.tmod_lt_of_pos k (show 0 < n by omega)
  have b2 : -n < k.tmod n := Int.lt_tmod_of_pos k (show 0 < n by omega)
  rw [← tmod_emod h1]
  go_enter Tryz.func72, Tryz.ntmps72
  go_wp2
  all_goals (go_ret; go_tidy; refine ⟨?_, rfl⟩)
  all_goals simp_all
theorem unit_mod {a b n : Int} (h1 : 1 ≤ n) (h : a % n = b % n) : unitP a n = unitP b n := by
  have e : unitR a n = unitR b n := by
    unfold unitR
    simp only [tmod_emod h1, h]
  unfold unitP unitC unitS unitX
  rw [e]
theorem steps_mod {f : Int} {n j : Nat} (h1 : 1 ≤ n) : unitP ((f % n * j) % n) n = unitP (f.tmod n * j) n := by
  refine unit_mod (by omega) ?_
  rw [Int.emod_emod_of_dvd _ (Int.dvd_refl _), Int.mul_emod, Int.emod_emod_of_dvd _ (Int.dvd_refl _), ← Int.mul_emod]
  rw [Int.mul_emod (f.tmod n), Int.mul_emod f]
  have : f.tmod n % n = f % n := by
    rw [Int.tmod_def, Int.sub_mul_emod_self_left]
  rw [this]
end Go.Proofs.YtflngnnoibkkoaaGreat.Rf

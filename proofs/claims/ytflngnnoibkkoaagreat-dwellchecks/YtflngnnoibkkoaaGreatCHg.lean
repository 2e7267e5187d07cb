/- Level, the program's. -/
import Derived.Test.YtflngnnoibkkoaaGreatCHd
import Derived.Test.YtflngnnoibkkoaaGreatCF
import Derived.BigQuiet
namespace Go.Proofs.YtflngnnoibkkoaaGreat.Cf
open Go.ChangeShapes Go.WideShapes Go.ChangeAt Go.RowKit Go.Fl Go.Sort
set_option maxRecDepth 200000
set_option maxHeartbeats 8000000
attribute [local go_sem] run_store_float call35 call46 run_neg fold_eq fold_ne fold_lt fold_gt abs_eq

theorem run_store_func {P : Program} (w : World) (a : Addr) (m : Mode) (k : Fn) (x y : Array Value) : (store a (.func k x y) m).run P w = stored P w a (.func k x y) m := run_store P w a _ m rfl
attribute [local go_sem] run_store_func
theorem chosen30 {way : Int} (h1 : -128 ≤ way) (h2 : way ≤ 127) (w : World) : Calls Tryz.prog 116 #[.int .i8 way] w fun e w' => ∃ k a b, e = .returned (.func k a b) ∧ Hid (Lev w' way (.func k a b)) ∧ Hid (Up w w') :=
  (t30 h1 h2 w).mono fun _ _ ⟨f, he, hl, hu⟩ => by
    obtain ⟨k, a, b, rfl⟩ := lev_one hl.out
    exact ⟨k, a, b, he, hl, hu⟩
end Go.Proofs.YtflngnnoibkkoaaGreat.Cf
/- Rows of one's own, whatever stands in them. -/
namespace Go.Proofs.YtflngnnoibkkoaaGreat.Cf
open Go.ChangeShapes Go.WideShapes Go.ChangeAt Go.RowKit Go.Fl Go.Sort
set_option maxRecDepth 200000
set_option maxHeartbeats 8000000

theorem owns_below {w w' : World} {b m n : Nat} {t : TypeId} {s : Nat} {v : Value} {xs : List Value} (h : w.ownsRow b t s v n xs) (hu : RowKit.Below m w w') (hm : ∀ k, v.ownBlock = some k → k < m) : w'.ownsRow b t s v n xs := by
  obtain ⟨h1, h2⟩ := h
  refine ⟨h1, ?_⟩
  rcases h2 with h2 | ⟨g, cap, cur, rfl, k2, k3, k4⟩
  · exact Or.inl h2
  · refine Or.inr ⟨g, cap, cur, rfl, k2, ?_, k4⟩
    rw [hu.block g (hm g rfl)]; exact k3
theorem owns_up {w w' : World} {b n : Nat} {t : TypeId} {s : Nat} {v : Value} {xs : List Value} (h : w.ownsRow b t s v n xs) (hu : Up w w') : w'.ownsRow b t s v n xs := owns_below h hu (fun k hk => (h.lt k hk).2)
/-- The form of a row's value. -/
theorem own_form {b n : Nat} {w : World} {t : TypeId} {s : Nat} {v : Value} {xs : List Value} (h : w.ownsRow b t s v n xs) : ∃ p cap, v = .slice p n cap ∧ (0 < n → ∃ g, p = some ⟨g, 0, none⟩) := by
  rcases h.2 with ⟨rfl, rfl⟩ | ⟨g, cap, cur, rfl, _⟩
  · exact ⟨none, 0, rfl, fun h => by omega⟩
  · exact ⟨_, cap, rfl, fun _ => ⟨g, rfl⟩⟩
end Go.Proofs.YtflngnnoibkkoaaGreat.Cf
/- Line, the program's. -/
namespace Go.Proofs.YtflngnnoibkkoaaGreat.Cf
open Go.ChangeShapes Go.WideShapes Go.ChangeAt Go.RowKit Go.Fl Go.Sort
set_option maxRecDepth 200000
set_option maxHeartbeats 8000000
attribute [local go_sem] run_store_float run_store_func call35 call46 run_neg fold_eq fold_ne fold_lt fold_gt abs_eq

/-- How a neighbourhood is cut and made into its level, in memory. -/
def BX (b : Nat) (f : Value) (G T N : Nat) (W : World) : Prop := W.cell? ⟨b, 0, none⟩ = some f ∧ W.cell? ⟨b, 1, none⟩ = some (.int .i64 G) ∧ W.cell? ⟨b, 2, none⟩ = some (.int .i64 T) ∧ W.cell? ⟨b, 3, none⟩ = some (.int .i64 N)
theorem BX.up {b : Nat} {f : Value} {G T N : Nat} {W W' : World} (h : BX b f G T N W) (hu : Up W W') : BX b f G T N W' := ⟨cell_up h.1 hu, cell_up h.2.1 hu, cell_up h.2.2.1 hu, cell_up h.2.2.2 hu⟩
theorem BX.new (w : World) (f : Value) (G T N : Nat) : BX w.heap.size f G T N (w.alloc (.cells #[f, .int .i64 G, .int .i64 T, .int .i64 N] 146)) := ⟨box4 w _ _ _ _ 0 _ rfl, box4 w _ _ _ _ 1 _ rfl, box4 w _ _ _ _ 2 _ rfl, box4 w _ _ _ _ 3 _ rfl⟩
theorem refE_may {g t m : Int} {x : Nat} (h : refE g t m x = 0) : mayF g t m = true ∧ fin (ab x) = true := by
  unfold refE at h
  cases hm : mayF g t m
  · rw [hm, if_pos rfl] at h; cases h
  · rw [hm, if_neg (by decide)] at h
    cases hf : fin (ab x)
    · rw [hf, if_neg (by decide)] at h; cases h
    · exact ⟨rfl, rfl⟩
end Go.Proofs.YtflngnnoibkkoaaGreat.Cf
/- Maps: what their rows hold; which are no tables. -/
namespace Go.Proofs.YtflngnnoibkkoaaGreat.Cf
open Go.ChangeShapes Go.WideShapes Go.ChangeAt Go.RowKit Go.Fl Go.Sort
set_option maxRecDepth 200000
set_option maxHeartbeats 8000000
attribute [local go_sem] run_store_float run_store_func call35 call46 run_neg fold_eq fold_ne fold_lt fold_gt abs_eq

/-- A map whose rows hold these floats. -/
structure MV (w : World) (p : Option Addr) (n cap : Nat) (D : Nat → Array Nat) : Prop where
  cap : n ≤ cap
  rd : 0 < n → ∃ b o, p = some ⟨b, o, none⟩ ∧ ∀ i, i < n → ∃ q c, w.cell? ⟨b, o + i, none⟩ = some (.slice q (D i).size c) ∧ SV w q (D i).size c (D i)
  small : ∀ i, i < n → (D i).size ≤ 1152921504606846976
theorem MV.up {w w' : World} {p : Option Addr} {n cap : Nat} {D : Nat → Array Nat} (h : MV w p n cap D) (hu : Up w w') : MV w' p n cap D :=
  ⟨h.cap, fun hp => by
    obtain ⟨b, o, e, r⟩ := h.rd hp
    refine ⟨b, o, e, fun i hi => ?_⟩
    obtain ⟨q, c, h1, h2⟩ := r i hi
    exact ⟨q, c, cell_up h1 hu, h2.up hu⟩, h.small⟩
/-- How many cells the first rows have. -/
def sumS (D : Nat → Array Nat) : Nat → Nat
  | 0 => 0
  | i + 1 => sumS D i + (D i).size
def longF (D : Nat → Array Nat) : Nat → Bool
  | 0 => false
  | i + 1 => longF D i || decide (16384 < (D i).size)
def raggedF (D : Nat → Array Nat) : Nat → Bool
  | 0 => false
  | i + 1 => raggedF D i || decide ((D i).size ≠ (D 0).size)
def largeF (n : Nat) (D : Nat → Array Nat) : Bool := decide (256 < n) || longF D n || decide (262144 < sumS D n)
/-- The first error of a map's rows. -/
def mapE (n : Nat) (D : Nat → Array Nat) : Int := if largeF n D = true then 3 else if raggedF D n = true then 5 else 0
theorem longF_true {D : Nat → Array Nat} {i n : Nat} (h : i < n) (hl : 16384 < (D i).size) : longF D n = true := by
  induction n with
  | zero => omega
  | succ n ih =>
    unfold longF
    rcases Nat.lt_succ_iff_lt_or_eq.1 h with h | rfl
    · rw [ih h]; rfl
    · rw [decide_eq_true hl, Bool.or_true]
theorem raggedF_true {D : Nat → Array Nat} {i n : Nat} (h : i < n) (hl : (D i).size ≠ (D 0).size) : raggedF D n = true := by
  induction n with
  | zero => omega
  | succ n ih =>
    unfold raggedF
    rcases Nat.lt_succ_iff_lt_or_eq.1 h with h | rfl
    · rw [ih h]; rfl
    · rw [decide_eq_true hl, Bool.or_true]
theorem longF_le {D : Nat → Array Nat} {n : Nat} (h : longF D n = false) {i : Nat} (hi : i < n) : (D i).size ≤ 16384 := by
  rcases Nat.lt_or_ge 16384 (D i).size with q | q
  · rw [longF_true hi q] at h; cases h
  · exact q
theorem sumS_le {D : Nat → Array Nat} {i : Nat} (h : longF D i = false) : sumS D i ≤ 16384 * i := by
  induction i with
  | zero => exact Nat.le_refl _
  | succ i ih =>
    unfold longF at h
    simp only [Bool.or_eq_false_iff, decide_eq_false_iff_not] at h
    have := ih h.1
    unfold sumS
    omega
set_option maxHeartbeats 1000000 in
theorem t55 {w : World} {p : Option Addr} {n cap : Nat} {D : Nat → Array Nat} (h : MV w p n cap D) : Calls Tryz.prog 143 #[.slice p n cap] w fun e w' => e = .returned (.bool (largeF n D)) ∧ w' = w := by
  have H : Hid (MV w p n cap D) := h
  clear h
  by_cases hn : 256 < n
  · have q : (256 : Int) < (n : Int) := by omega
    go_enter Tryz.func143, Tryz.ntmps143
    go_wp2
    go_ret
    refine ⟨?_, rfl⟩
    unfold largeF; rw [decide_eq_true hn]; rfl
  have q : ¬ (256 : Int) < (n : Int) := by omega
  go_enter Tryz.func143, Tryz.ntmps143
  go_wp2
  go_loopw [3, 5, 11] (fun vs _ vi wr => ∃ i s : Nat, i ≤ n ∧ vs = .int .i64 s ∧ vi = .int .i64 i ∧ s ≤ 16384 * i ∧ Hid (s = sumS D i ∧ longF D i = false) ∧ wr = w) (fun _ _ vi _ => n - (intOf vi).toNat)
  case atStart => exact ⟨0, 0, by omega, rfl, rfl, by omega, ⟨rfl, rfl⟩, by trivial⟩
  case round =>
    obtain ⟨i, s, hin, rfl, rfl, hs, HS, hw⟩ := hrel
    subst hw
    rename World => w
    by_cases hlt : i < n
    · obtain ⟨b, o, hpe, hr⟩ := H.out.rd (by omega)
      subst hpe
      obtain ⟨q1, c1, k1, k2⟩ := hr i hlt
      obtain ⟨z, hz⟩ : ∃ z, (D i).size = z := ⟨_, rfl⟩
      rw [hz] at k1
      have zs : z ≤ 1152921504606846976 := by rw [← hz]; exact H.out.small i hlt
      have HZ : Hid _ := hz
      clear hr k2 hz
      have hl3 : (i : Int) < (n : Int) := by omega
      by_cases hlong : 16384 < z
      · have hq : (16384 : Int) < (z : Int) := by omega
        go_wp2
        go_ret
        refine ⟨?_, rfl⟩
        have e1 := longF_true (D := D) hlt (by rw [HZ.out]; exact hlong)
        unfold largeF; rw [e1, Bool.or_true]; rfl
      · have hq : ¬ (16384 : Int) < (z : Int) := by omega
        go_wp2
        go_roundw
        case rel =>
          refine ⟨i + 1, s + z, by omega, by go_num, by go_num, by omega, ⟨?_, ?_⟩, by trivial⟩
          · unfold sumS; rw [HZ.out, ← HS.out.1]
          · unfold longF; rw [HS.out.2, decide_eq_false (by rw [HZ.out]; exact hlong)]; rfl
        case measure => simp [intOf]; omega
    · have hie : n = i := by omega
      subst hie
      go_wp2
      go_ret
      refine ⟨?_, rfl⟩
      unfold largeF
      rw [HS.out.2, ← HS.out.1, decide_eq_false hn]
      simp
      omega
theorem t55k {w : World} {p : Option Addr} {n cap : Nat} {D : Nat → Array Nat} {b : Bool} (h : MV w p n cap D) (hb : largeF n D = b) : Calls Tryz.prog 143 #[.slice p n cap] w fun e w' => e = .returned (.bool b) ∧ w' = w := hb ▸ t55 h
set_option maxHeartbeats 1000000 in
theorem t40 {w : World} {p : Option Addr} {n cap : Nat} {D : Nat → Array Nat} (h : MV w p n cap D) : Calls Tryz.prog 117 #[.slice p n cap] w fun e w' => e = .returned (.int .i64 (mapE n D)) ∧ w' = w := by
  have H : Hid (MV w p n cap D) := h
  clear h
  obtain ⟨b, hb⟩ : ∃ b, largeF n D = b := ⟨_, rfl⟩
  have HB : Hid _ := hb
  clear hb
  cases b
  rotate_left
  · go_enter Tryz.func117, Tryz.ntmps117
    go_wp2_with (go_at_call 143; (with_reducible refine (t55k H.out HB.out).mono ?_); rintro e w' ⟨rfl, hw⟩; subst w')
    go_ret
    refine ⟨?_, rfl⟩
    unfold mapE; rw [if_pos HB.out]; rfl
  have hn : n ≤ 256 := by
    have := HB.out
    unfold largeF at this
    simp only [Bool.or_eq_false_iff, decide_eq_false_iff_not] at this
    omega
  go_enter Tryz.func117, Tryz.ntmps117
  go_wp2_with (go_at_call 143; (with_reducible refine (t55k H.out HB.out).mono ?_); rintro e w' ⟨rfl, hw⟩; subst w')
  go_loopw [4, 9] (fun _ vi wr => ∃ i : Nat, i ≤ n ∧ vi = .int .i64 i ∧ Hid (raggedF D i = false) ∧ wr = w) (fun _ vi _ => n - (intOf vi).toNat)
  case atStart => exact ⟨0, by omega, rfl, rfl, by trivial⟩
  case round =>
    obtain ⟨i, hin, rfl, HS, hw⟩ := hrel
    subst hw
    rename World => w
    by_cases hlt : i < n
    · obtain ⟨b, o, hpe, hr⟩ := H.out.rd (by omega)
      subst hpe
      obtain ⟨q1, c1, k1, _⟩ := hr i hlt
      obtain ⟨q0, c0, k0, _⟩ := hr 0 (by omega)
      obtain ⟨z, hz⟩ : ∃ z, (D i).size = z := ⟨_, rfl⟩
      obtain ⟨y, hy⟩ : ∃ y, (D 0).size = y := ⟨_, rfl⟩
      rw [hz] at k1
      rw [hy, Nat.add_zero] at k0
      have HZ : Hid _ := hz
      have HY : Hid _ := hy
      clear hr hz hy
      have hl3 : (i : Int) < (n : Int) := by omega
      have hl4 : (0 : Int) < (n : Int) := by omega
      by_cases he : z = y
      · have hb : ((z : Int) == (y : Int)) = true := by rw [beq_iff_eq]; omega
        go_wp2
        go_roundw
        case rel =>
          refine ⟨i + 1, by omega, by go_num, ?_, by trivial⟩
          show raggedF D (i + 1) = false
          unfold raggedF; rw [HS.out, decide_eq_false (by rw [HZ.out, HY.out]; simpa using he)]; rfl
        case measure => simp [intOf]; omega
      · have hb : ((z : Int) == (y : Int)) = false := by rw [beq_eq_false_iff_ne]; omega
        go_wp2
        go_ret
        refine ⟨?_, rfl⟩
        unfold mapE; rw [if_neg (by rw [HB.out]; decide), if_pos (raggedF_true hlt (by rw [HZ.out, HY.out]; exact he))]; rfl
    · have hie : n = i := by omega
      subst hie
      go_wp2
      go_ret
      refine ⟨?_, rfl⟩
      unfold mapE; rw [if_neg (by rw [HB.out]; decide), if_neg (by rw [HS.out]; decide)]; rfl
end Go.Proofs.YtflngnnoibkkoaaGreat.Cf
/- Spots: rows of them; Map, the program's. -/
namespace Go.Proofs.YtflngnnoibkkoaaGreat.Cf
open Go.ChangeShapes Go.WideShapes Go.ChangeAt Go.RowKit Go.Fl Go.Sort
set_option maxRecDepth 200000
set_option maxHeartbeats 8000000
attribute [local go_sem] run_store_float run_store_func call35 call46 run_neg fold_eq fold_ne fold_lt fold_gt abs_eq

/-- A spot: its bin, its gate, its power. -/
abbrev Spt := Nat × Nat × Nat
def spC (s : Spt) : List Value := [.int .i64 s.1, .int .i64 s.2.1, .float .f64 s.2.2]
/-- A row of spots of one's own. -/
def SO (b : Nat) (w : World) (v : Value) (L : List Spt) : Prop := w.ownsRow b 151 3 v L.length (L.flatMap spC)
theorem SO.up {b : Nat} {w w' : World} {v : Value} {L : List Spt} (h : SO b w v L) (hu : Up w w') : SO b w' v L := owns_up h hu
theorem SO.base {b b' : Nat} {w : World} {v : Value} {L : List Spt} (h : SO b w v L) (hb : b' ≤ b) : SO b' w v L := by
  obtain ⟨h1, h2⟩ := h
  refine ⟨h1, ?_⟩
  rcases h2 with h2 | ⟨g, cap, cur, rfl, k2, k3⟩
  · exact Or.inl h2
  · exact Or.inr ⟨g, cap, cur, rfl, Nat.le_trans hb k2, k3⟩
theorem SO.nil (b : Nat) (w : World) : SO b w (.slice none 0 0) [] := World.ownsRow_nil _ _ _ _
theorem info44 : (Tryz.prog.info? 151).map (fun i => (i.zero, i.size, i.bytes)) = some (some (.agg #[.int .i64 0, .int .i64 0, .float .f64 0]), 3, 24) := by kernel_rfl
/-- What is found in the first gates of a row; in the first rows of a map. -/
def spRow (F : Array Nat → Nat → Bool) (i : Nat) (d : Array Nat) : Nat → List Spt
  | 0 => []
  | k + 1 => spRow F i d k ++ (if F d k = true then [(i, k, d[k]!)] else [])
def spAll (F : Array Nat → Nat → Bool) (D : Nat → Array Nat) : Nat → List Spt
  | 0 => []
  | i + 1 => spAll F D i ++ spRow F i (D i) (D i).size
theorem spRow_mono (F : Array Nat → Nat → Bool) (i : Nat) (d : Array Nat) {k n : Nat} (h : k ≤ n) : (spRow F i d k).length ≤ (spRow F i d n).length := by
  induction n with
  | zero => obtain rfl : k = 0 := by omega
            exact Nat.le_refl _
  | succ n ih =>
    rcases Nat.lt_or_ge k (n + 1) with q | q
    · have := ih (by omega)
      show _ ≤ (spRow F i d n ++ _).length
      rw [List.length_append]; omega
    · obtain rfl : k = n + 1 := by omega
      exact Nat.le_refl _
theorem spAll_mono (F : Array Nat → Nat → Bool) (D : Nat → Array Nat) {i n : Nat} (h : i ≤ n) : (spAll F D i).length ≤ (spAll F D n).length := by
  induction n with
  | zero => obtain rfl : i = 0 := by omega
            exact Nat.le_refl _
  | succ n ih =>
    rcases Nat.lt_or_ge i (n + 1) with q | q
    · have := ih (by omega)
      show _ ≤ (spAll F D n ++ _).length
      rw [List.length_append]; omega
    · obtain rfl : i = n + 1 := by omega
      exact Nat.le_refl _
theorem sp_most (F : Array Nat → Nat → Bool) (D : Nat → Array Nat) {i k n : Nat} (hi : i < n) (hk : k < (D i).size) (hF : F (D i) k = true) (hl : (spAll F D i ++ spRow F i (D i) k).length = 4096) : 4096 < (spAll F D n).length := by
  have h1 := spAll_mono F D (show i + 1 ≤ n by omega)
  have h2 := spRow_mono F i (D i) (show k + 1 ≤ (D i).size by omega)
  have h3 : (spAll F D (i + 1)).length = (spAll F D i).length + (spRow F i (D i) (D i).size).length := by
    show (spAll F D i ++ _).length = _
    rw [List.length_append]
  have h4 : (spRow F i (D i) (k + 1)).length = (spRow F i (D i) k).length + 1 := by
    show (spRow F i (D i) k ++ _).length = _
    rw [if_pos hF, List.length_append]; rfl
  rw [List.length_append] at hl
  omega
/-- The error of a map; its spots. -/
def mpE (F : Array Nat → Nat → Bool) (n : Nat) (D : Nat → Array Nat) (g t m : Int) (x : Nat) : Int := if mapE n D ≠ 0 then mapE n D else if refE g t m x ≠ 0 then refE g t m x else if 4096 < (spAll F D n).length then 3 else 0
def mpL (F : Array Nat → Nat → Bool) (n : Nat) (D : Nat → Array Nat) (g t m : Int) (x : Nat) : List Spt := if mpE F n D g t m x = 0 then spAll F D n else []
def MR (w : World) (F : Array Nat → Nat → Bool) (n : Nat) (D : Nat → Array Nat) (g t m : Int) (x : Nat) (e : Ending) (w' : World) : Prop := ∃ p c, e = .returned (.tuple #[.slice p (mpL F n D g t m x).length c, .int .i64 (mpE F n D g t m x)]) ∧ Hid (SO w.heap.size w' (.slice p (mpL F n D g t m x).length c) (mpL F n D g t m x)) ∧ Hid (Up w w')
theorem MR.bad {w w' : World} {F : Array Nat → Nat → Bool} {n : Nat} {D : Nat → Array Nat} {g t m : Int} {x : Nat} {c : Int} (h : mpE F n D g t m x = c) (hc : c ≠ 0) (hu : Up w w') : MR w F n D g t m x (.returned (.tuple #[.slice none 0 0, .int .i64 c])) w' := by
  have e : mpL F n D g t m x = [] := by unfold mpL; rw [h, if_neg hc]
  refine ⟨none, 0, by rw [e, h]; rfl, ?_, hu⟩
  rw [e]; exact SO.nil _ _
theorem MR.ok {w w' : World} {F : Array Nat → Nat → Bool} {n : Nat} {D : Nat → Array Nat} {g t m : Int} {x : Nat} {p : Option Addr} {N c : Nat} {L : List Spt} (h1 : mapE n D = 0) (h2 : refE g t m x = 0) (hL : L = spAll F D n) (hN : L.length = N) (hl : N ≤ 4096) (ho : SO w.heap.size w' (.slice p N c) L) (hu : Up w w') : MR w F n D g t m x (.returned (.tuple #[.slice p N c, .int .i64 0])) w' := by
  subst hL
  have h : mpE F n D g t m x = 0 := by
    unfold mpE
    rw [if_neg (by rw [h1]; simp), if_neg (by rw [h2]; simp), if_neg (by omega)]
  have e : mpL F n D g t m x = spAll F D n := by unfold mpL; rw [if_pos h]
  exact ⟨p, c, by rw [e, h, hN], by rw [e, hN]; exact ho, hu⟩
/-- A row of spots gets one more. -/
theorem so_push {w wr w1 : World} {v v' : Value} {m b : Nat} {L : List Spt} {s : Spt} (hb : w.heap.size ≤ b) (hl : L.length = m) (hown : wr.ownsRow b 151 3 v m (L.flatMap spC)) (hbel : Up w wr) {c : Array Value} {t : TypeId}
    (hown' : w1.ownsRow b 151 3 v' (m + 1) (L.flatMap spC ++ [.int .i64 s.1, .int .i64 s.2.1, .float .f64 s.2.2])) (hg : (wr.alloc (.cells c t)).grownBy w1 v.ownBlock) :
    SO b w1 v' (L ++ [s]) ∧ Up w w1 := by
  refine ⟨?_, ?_⟩
  · show w1.ownsRow _ _ _ _ _ _
    rw [List.flatMap_append, List.length_append, hl]
    exact hown'
  · have hs : w.heap.size ≤ wr.heap.size := RowKit.Below.size hbel
    exact (RowKit.Below.alloc hbel hs _).grown hg (by simp; omega) (fun j hj => Nat.le_trans hb (hown.lt j hj).1)
theorem three_new (w : World) (a b c : Value) (t : TypeId) : ∀ (j : Nat) (u : Value), [a, b, c][j]? = some u → (w.alloc (.cells #[a, b, c] t)).cell? ((⟨w.heap.size, 0, none⟩ : Addr).add j) = some u := by
  intro j u hj
  have e : (⟨w.heap.size, 0, none⟩ : Addr).add j = ⟨w.heap.size, j, none⟩ := by
    unfold Addr.add
    split
    · rename_i h; rw [h]
    · simp
  rw [e, World.cell?_alloc_at _ _ _ _ rfl]
  simpa using hj
theorem three_one {a b c : Value} (ha : a.oneCell' = true) (hb : b.oneCell' = true) (hc : c.oneCell' = true) : ∀ u ∈ [a, b, c], u.oneCell' = true := by
  intro u hu
  simp at hu
  rcases hu with rfl | rfl | rfl
  · exact ha
  · exact hb
  · exact hc
set_option maxHeartbeats 1000000 in
theorem t17bad {w : World} {p : Option Addr} {n cap x : Nat} {D : Nat → Array Nat} {way : Int} {F : Array Nat → Nat → Bool} (g t m : Int) (h1 : -128 ≤ way) (h2 : way ≤ 127) (h : MV w p n cap D) (hE : mapE n D ≠ 0 ∨ refE g t m x ≠ 0) :
    Calls Tryz.prog 74 #[.slice p n cap, .int .i8 way, .int .i64 g, .int .i64 t, .int .i64 m, .float .f64 x] w (MR w F n D g t m x) := by
  have H : Hid (MV w p n cap D) := h
  clear h
  obtain ⟨c1, hc1⟩ : ∃ c, mapE n D = c := ⟨_, rfl⟩
  obtain ⟨c2, hc2⟩ : ∃ c, refE g t m x = c := ⟨_, rfl⟩
  have C40 : Hid (∀ W, Up w W → Calls Tryz.prog 117 #[.slice p n cap] W fun e w' => e = .returned (.int .i64 c1) ∧ w' = W) := fun W hu => hc1 ▸ t40 (H.out.up hu)
  have C37 : Hid (∀ f W, Calls Tryz.prog 118 #[.agg #[f, .int .i64 g, .int .i64 t, .int .i64 m], .float .f64 x] W fun e w' => e = .returned (.int .i64 c2) ∧ Hid (Up W w')) := fun f W => hc2 ▸ t37 f g t m x W
  have HC : Hid (mapE n D = c1 ∧ refE g t m x = c2) := ⟨hc1, hc2⟩
  rw [hc1, hc2] at hE
  clear hc1 hc2
  by_cases q1 : c1 = 0
  · have q2 : c2 ≠ 0 := by omega
    have b2 : (c2 == 0) = false := by rw [beq_eq_false_iff_ne]; exact q2
    subst q1
    clear hE
    go_enter Tryz.func74, Tryz.ntmps74
    go_wp2_with (first
      | (go_at_call 116; (with_reducible refine (chosen30 h1 h2 _).mono ?_); rintro e w1 ⟨fk, fa, fb, rfl, HL, HU⟩)
      | (go_at_call 117; (with_reducible refine (C40.out _ (HU.out.trans (Up.alloc _ _))).mono ?_); rintro e w' ⟨rfl, hw⟩; subst w')
      | (go_at_call 118; (with_reducible refine (C37.out _ _).mono ?_); rintro e w2 ⟨rfl, HU2⟩))
    go_ret2
    refine MR.bad ?_ q2 ((HU.out.trans (Up.alloc _ _)).trans HU2.out)
    unfold mpE; rw [if_neg (by rw [HC.out.1]; simp), if_pos (by rw [HC.out.2]; exact q2), HC.out.2]
  · have b1 : (c1 == 0) = false := by rw [beq_eq_false_iff_ne]; exact q1
    clear hE
    go_enter Tryz.func74, Tryz.ntmps74
    go_wp2_with (first
      | (go_at_call 116; (with_reducible refine (chosen30 h1 h2 _).mono ?_); rintro e w1 ⟨fk, fa, fb, rfl, HL, HU⟩)
      | (go_at_call 117; (with_reducible refine (C40.out _ (HU.out.trans (Up.alloc _ _))).mono ?_); rintro e w' ⟨rfl, hw⟩; subst w'))
    go_ret2
    refine MR.bad ?_ q1 (HU.out.trans (Up.alloc _ _))
    unfold mpE; rw [if_pos (by rw [HC.out.1]; exact q1), HC.out.1]
theorem mapE_small {n : Nat} {D : Nat → Array Nat} (h : mapE n D = 0) : n ≤ 256 ∧ ∀ i, i < n → (D i).size ≤ 16384 := by
  unfold mapE at h
  by_cases q : largeF n D = true
  · rw [if_pos q] at h; cases h
  · have q2 : largeF n D = false := by simpa using q
    unfold largeF at q2
    simp only [Bool.or_eq_false_iff, decide_eq_false_iff_not] at q2
    exact ⟨by omega, fun i hi => longF_le q2.1.2 hi⟩
end Go.Proofs.YtflngnnoibkkoaaGreat.Cf
/- Map, the program's, of what may be. -/
namespace Go.Proofs.YtflngnnoibkkoaaGreat.Cf
open Go.ChangeShapes Go.WideShapes Go.ChangeAt Go.RowKit Go.Fl Go.Sort
set_option maxRecDepth 200000
set_option maxHeartbeats 8000000
attribute [local go_sem] run_store_float run_store_func call35 call46 run_neg fold_eq fold_ne fold_lt fold_gt abs_eq

set_option maxHeartbeats 4000000 in
theorem t17ok {w : World} {p : Option Addr} {n cap x : Nat} {D : Nat → Array Nat} {way : Int} (g t m : Int) (h1 : -128 ≤ way) (h2 : way ≤ 127) (h : MV w p n cap D) (hE1 : mapE n D = 0) (hE2 : refE g t m x = 0) :
    Calls Tryz.prog 74 #[.slice p n cap, .int .i8 way, .int .i64 g, .int .i64 t, .int .i64 m, .float .f64 x] w (MR w (echoD way g.toNat t.toNat m.toNat (ab x)) n D g t m x) := by
  have H : Hid (MV w p n cap D) := h
  obtain ⟨i0, hi0, hz0, hz1, hz2⟩ := info_parts info44
  obtain ⟨hn, hsm⟩ := mapE_small hE1
  obtain ⟨hm, _⟩ := refE_may hE2
  have HE : Hid (mapE n D = 0 ∧ refE g t m x = 0) := ⟨hE1, hE2⟩
  simp only [mayF, Bool.and_eq_true, decide_eq_true_eq] at hm
  obtain ⟨⟨⟨g0, g1⟩, t0, t1⟩, m0, m1⟩ := hm
  obtain ⟨G, rfl⟩ := Int.eq_ofNat_of_zero_le g0
  obtain ⟨T, rfl⟩ := Int.eq_ofNat_of_zero_le (show 0 ≤ t by omega)
  obtain ⟨M, rfl⟩ := Int.eq_ofNat_of_zero_le m0
  simp only [Int.toNat_natCast]
  obtain ⟨F, hF⟩ : ∃ F, echoD way G T M (ab x) = F := ⟨_, rfl⟩
  rw [hF]
  have C40 : Hid (∀ W, Up w W → Calls Tryz.prog 117 #[.slice p n cap] W fun e w' => e = .returned (.int .i64 0) ∧ w' = W) := fun W hu => hE1 ▸ t40 (H.out.up hu)
  have C37 : Hid (∀ f W, Calls Tryz.prog 118 #[.agg #[f, .int .i64 G, .int .i64 T, .int .i64 M], .float .f64 x] W fun e w' => e = .returned (.int .i64 0) ∧ Hid (Up W w')) := fun f W => hE2 ▸ t37 f G T M x W
  have C38 : Hid (∀ f W i K q c, i < n → K < (D i).size → SV W q (D i).size c (D i) → Lev W way f → Calls Tryz.prog 119 #[.agg #[f, .int .i64 G, .int .i64 T, .int .i64 M], .slice q (D i).size c, .int .i64 K, .float .f64 x] W (EB W (F (D i) K))) := fun f W i K q c hi hK hv hl => hF ▸ t38 hl hv (hsm i hi) hK (by omega) (by omega)
  have HSM : Hid (∀ i, i < n → (D i).size ≤ 16384) := hsm
  clear g0 g1 t0 t1 m0 m1 hE1 hE2 h hF hsm
  go_enter Tryz.func74, Tryz.ntmps74
  go_wp2_with (first
    | (go_at_call 116; (with_reducible refine (chosen30 h1 h2 _).mono ?_); rintro e w1 ⟨fk, fa, fb, rfl, HL, HU⟩)
    | (go_at_call 117; (with_reducible refine (C40.out _ (HU.out.trans (Up.alloc _ _))).mono ?_); rintro e w' ⟨rfl, hw⟩; subst w')
    | (go_at_call 118; (with_reducible refine (C37.out _ _).mono ?_); rintro e w2 ⟨rfl, HU2⟩; have HX : Hid (BX w1.heap.size (.func fk fa fb) G T M w2) := (BX.new w1 _ _ _ _).up HU2.out))
  have HLW : Hid (Lev w2 way (.func fk fa fb)) := HL.out.up ((Up.alloc _ _).trans HU2.out)
  have HUW : Hid (Up w w2) := (HU.out.trans (Up.alloc _ _)).trans HU2.out
  clear HL HU HU2 C40 C37
  go_loopw [17, 41] (fun v vi wr => ∃ (i N c : Nat) (q : Option Addr) (L : List Spt), v = .slice q N c ∧ vi = .int .i64 i ∧ i ≤ n ∧ N ≤ 4096 ∧ Hid (L.length = N) ∧ Hid (L = spAll F D i) ∧ Hid (SO w2.heap.size wr (.slice q N c) L) ∧ Hid (Up w2 wr)) (fun _ vi _ => n - (intOf vi).toNat)
  case atStart => exact ⟨0, 0, 0, none, [], rfl, rfl, by omega, by omega, rfl, rfl, SO.nil _ _, Up.refl _⟩
  case round =>
    obtain ⟨i, N, c, q, L, rfl, rfl, hin, hN, HN, HL, HO, HU⟩ := hrel
    rename World => W
    by_cases hlt : i < n
    · obtain ⟨b, o, hpe, hr⟩ := H.out.rd (by omega)
      subst hpe
      obtain ⟨q1, c1, k1, k2⟩ := hr i hlt
      have SR : Hid (SV w q1 (D i).size c1 (D i)) := k2
      have k1' := cell_up k1 (HUW.out.trans HU.out)
      have hz : (D i).size ≤ 16384 := HSM.out i hlt
      obtain ⟨d, hd⟩ : ∃ d, D i = d := ⟨_, rfl⟩
      have C38i : Hid (∀ f W K q c, K < d.size → SV W q d.size c d → Lev W way f → Calls Tryz.prog 119 #[.agg #[f, .int .i64 G, .int .i64 T, .int .i64 M], .slice q d.size c, .int .i64 K, .float .f64 x] W (EB W (F d K))) := fun f W K q c hK hv hl => by
        have := C38.out f W i K q c hlt (by rw [hd]; exact hK) (by rw [hd]; exact hv) hl
        rw [hd] at this; exact this
      rw [hd] at k1' hz SR
      have HD : Hid (D i = d) := hd
      clear hd k1 k2 hr
      obtain ⟨z, hzz⟩ : ∃ z, d.size = z := ⟨_, rfl⟩
      rw [hzz] at k1' hz SR C38i
      have HZ : Hid _ := hzz
      clear hzz
      have hl3 : (i : Int) < (n : Int) := by omega
      go_wp2
      go_loopw [17, 48] (fun v vi wr => ∃ (k N c : Nat) (q : Option Addr) (L : List Spt), v = .slice q N c ∧ vi = .int .i64 k ∧ k ≤ z ∧ N ≤ 4096 ∧ Hid (L.length = N) ∧ Hid (L = spAll F D i ++ spRow F i d k) ∧ Hid (SO w2.heap.size wr (.slice q N c) L) ∧ Hid (Up w2 wr)) (fun _ vi _ => z - (intOf vi).toNat)
      case atStart => exact ⟨0, N, c, q, L, rfl, rfl, by omega, hN, HN, by show L = _; rw [HL.out]; simp [spRow], HO, HU⟩
      case round =>
        clear HL HO HU HN hN k1'
        obtain ⟨k, N, c, q, L, rfl, rfl, hkz, hN, HN, HL, HO, HU⟩ := hrel
        rename World => W2
        by_cases hkl : k < z
        · obtain ⟨b2, o2, hpe, hr⟩ := SR.out.rd (by omega)
          subst hpe
          obtain ⟨y, hy⟩ : ∃ y, d[k]! = y := ⟨_, rfl⟩
          have cy := cell_up (hr k (by rw [HZ.out]; exact hkl)) (HUW.out.trans HU.out)
          rw [hy] at cy
          have HY : Hid _ := hy
          have hk3 : (k : Int) < (z : Int) := by omega
          clear hr hy
          obtain ⟨x0, x1, x2, x3⟩ := HX.out.up HU.out
          obtain ⟨f, hf⟩ : ∃ f, F d k = f := ⟨_, rfl⟩
          have HF : Hid _ := hf
          have C38k : Hid (Calls Tryz.prog 119 #[.agg #[.func fk fa fb, .int .i64 G, .int .i64 T, .int .i64 M], .slice (some ⟨b2, o2, none⟩) z c1, .int .i64 k, .float .f64 x] W2 (EB W2 f)) := by
            have := C38i.out _ W2 k _ _ hkl (SR.out.up (HUW.out.trans HU.out)) (HLW.out.up HU.out)
            rw [hf] at this; exact this
          clear hf
          cases f
          · go_wp2_with (go_at_call 119; (with_reducible refine C38k.out.mono ?_); rintro e w4 ⟨rfl, HU4⟩)
            go_roundw
            case rel =>
              refine ⟨k + 1, N, c, q, L, rfl, by go_num, by omega, hN, HN, ?_, HO.out.up HU4.out, HU.out.trans HU4.out⟩
              show _ = _
              rw [HL.out]
              show _ = spAll F D i ++ (spRow F i d k ++ (if F d k = true then _ else _))
              rw [HF.out]; simp
            case measure => simp [intOf]; omega
          · by_cases hfull : N = 4096
            · subst hfull
              go_wp2_with (go_at_call 119; (with_reducible refine C38k.out.mono ?_); rintro e w4 ⟨rfl, HU4⟩)
              go_ret2
              refine MR.bad ?_ (by decide) ((HUW.out.trans HU.out).trans HU4.out)
              have hm := sp_most F D hlt (k := k) (by rw [HD.out, HZ.out]; exact hkl) (by rw [HD.out]; exact HF.out) (by rw [HD.out, ← HL.out]; exact HN.out)
              unfold mpE
              rw [if_neg (by rw [HE.out.1]; simp), if_neg (by rw [HE.out.2]; simp), if_pos hm]
            · have hb : ((N : Int) == 4096) = false := by rw [beq_eq_false_iff_ne]; omega
              go_wp2_with (first
                | (go_at_call 119; (with_reducible refine C38k.out.mono ?_); rintro e w4 ⟨rfl, HU4⟩; (have sz : w2.heap.size ≤ w4.heap.size := RowKit.Below.size (HU.out.trans HU4.out)); (have hown : w4.ownsRow w2.heap.size 151 3 (.slice q N c) N (L.flatMap spC) := by have := HO.out.up HU4.out; unfold SO at this; rw [HN.out] at this; exact this))
                | (at_builtin; refine wpList_append_own _ rfl _ _ 70 rfl w2.heap.size 151 i0 (.agg #[.int .i64 0, .int .i64 0, .float .f64 0]) 3 24 Tryz.underlying70 hi0 hz0 hz1 hz2 rfl (by decide) _ _ _ rfl (hown.alloc _) ⟨w4.heap.size, 0, none⟩ 1 1 [.int .i64 i, .int .i64 k, .float .f64 y] rfl rfl (three_new _ _ _ _ _) (three_one rfl rfl rfl) (by unfold maxLen; omega) (by omega) (by simp; omega) ?_))
              intro v' w6 hown' hgrow _
              have R3 := so_push (s := (i, k, y)) (Nat.le_refl _) HN.out hown (HU.out.trans HU4.out) hown' hgrow
              have U6 : Hid (Up w2 w6) := R3.2
              obtain ⟨p', c', hv, _⟩ := own_form hown'
              subst hv
              have HO3 : Hid (SO w2.heap.size w6 (.slice p' (N + 1) c') (L ++ [(i, k, y)])) := R3.1
              clear hown' hgrow hown R3
              go_wp2
              go_roundw
              case rel =>
                refine ⟨k + 1, N + 1, c', p', L ++ [(i, k, y)], rfl, by go_num, by omega, by omega, by show _ = _; rw [List.length_append, HN.out]; rfl, ?_, HO3, U6⟩
                show _ = _
                rw [HL.out]
                show _ = spAll F D i ++ (spRow F i d k ++ (if F d k = true then _ else _))
                rw [HF.out, if_pos rfl, HY.out, List.append_assoc]
              case measure => simp [intOf]; omega
        · have hke : z = k := by omega
          subst hke
          go_wp2
          go_roundw
          case rel =>
            refine ⟨i + 1, N, c, q, L, rfl, by go_num, by omega, hN, HN, ?_, HO, HU⟩
            show _ = spAll F D i ++ spRow F i (D i) (D i).size
            rw [HD.out, HZ.out]; exact HL.out
          case measure => simp [intOf]; omega
    · have hie : n = i := by omega
      subst hie
      go_wp2
      go_ret2
      exact MR.ok HE.out.1 HE.out.2 HL.out HN.out hN (HO.out.base (RowKit.Below.size HUW.out)) (HUW.out.trans HU.out)
theorem t17 {w : World} {p : Option Addr} {n cap x : Nat} {D : Nat → Array Nat} {way : Int} (g t m : Int) (h1 : -128 ≤ way) (h2 : way ≤ 127) (h : MV w p n cap D) :
    Calls Tryz.prog 74 #[.slice p n cap, .int .i8 way, .int .i64 g, .int .i64 t, .int .i64 m, .float .f64 x] w (MR w (echoD way g.toNat t.toNat m.toNat (ab x)) n D g t m x) := by
  by_cases hE : mapE n D ≠ 0 ∨ refE g t m x ≠ 0
  · exact t17bad g t m h1 h2 h hE
  · exact t17ok g t m h1 h2 h (by omega) (by omega)
end Go.Proofs.YtflngnnoibkkoaaGreat.Cf

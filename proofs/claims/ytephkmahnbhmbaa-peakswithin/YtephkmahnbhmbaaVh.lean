/- The greatest number of a map. No program. -/
import Derived.Test.YtephkmahnbhmbaaVd
import Derived.Test.YtephkmahnbhmbaaWa
namespace Go.Proofs.Ytephkmahnbhmbaa
open Go.Fl Go.Sort

/-- The greatest of a row's first k numbers and of m; of the first rows. -/
def mostRow (D : Nat → Array Nat) (b : Nat) (m : Nat) : Nat → Nat
  | 0 => m
  | k + 1 => if gtF (ab (D b)[k]!) (ab (mostRow D b m k)) = true then (D b)[k]! else mostRow D b m k
def mostAll (D : Nat → Array Nat) (G : Nat) : Nat → Nat
  | 0 => 0
  | i + 1 => mostRow D i (mostAll D G i) G
/-- What is known of it. -/
structure Most (D : Nat → Array Nat) (S : Nat → Nat → Prop) (m : Nat) : Prop where
  num : isN m = false
  pos : 0 ≤ lin m
  le : ∀ b g, S b g → isN (D b)[g]! = false → lin (D b)[g]! ≤ lin m
  is : m = 0 ∨ ∃ b g, S b g ∧ isN (D b)[g]! = false ∧ (D b)[g]! = m
theorem Most.next {D : Nat → Array Nat} {S S' : Nat → Nat → Prop} {m b k : Nat} (h : Most D S m) (hS : ∀ x y, S' x y ↔ S x y ∨ x = b ∧ y = k) : Most D S' (if gtF (ab (D b)[k]!) (ab m) = true then (D b)[k]! else m) := by
  cases hn : isN (D b)[k]! with
  | true =>
    have e : gtF (ab (D b)[k]!) (ab m) = false := by rw [ab_none hn, ab_some h.num]; rfl
    rw [e, if_neg (by simp)]
    refine ⟨h.num, h.pos, fun x y hs hx => ?_, h.is.imp_right fun ⟨x, y, h1, h2⟩ => ⟨x, y, (hS x y).2 (Or.inl h1), h2⟩⟩
    rcases (hS x y).1 hs with h1 | ⟨rfl, rfl⟩
    · exact h.le x y h1 hx
    · rw [hn] at hx; cases hx
  | false =>
    rw [ab_some hn, ab_some h.num, gtF_lin hn h.num]
    by_cases hg : lin m < lin (D b)[k]!
    · rw [if_pos (decide_eq_true hg)]
      refine ⟨hn, by have := h.pos; omega, fun x y hs hx => ?_, Or.inr ⟨b, k, (hS b k).2 (Or.inr ⟨rfl, rfl⟩), hn, rfl⟩⟩
      rcases (hS x y).1 hs with h1 | ⟨rfl, rfl⟩
      · have := h.le x y h1 hx; omega
      · exact Int.le_refl _
    · rw [if_neg (by simpa using hg)]
      refine ⟨h.num, h.pos, fun x y hs hx => ?_, h.is.imp_right fun ⟨x, y, h1, h2⟩ => ⟨x, y, (hS x y).2 (Or.inl h1), h2⟩⟩
      rcases (hS x y).1 hs with h1 | ⟨rfl, rfl⟩
      · exact h.le x y h1 hx
      · omega
theorem Most.row {D : Nat → Array Nat} {i G m : Nat} (h : Most D (fun x y => x < i ∧ y < G) m) : ∀ k, k ≤ G → Most D (fun x y => x < i ∧ y < G ∨ x = i ∧ y < k) (mostRow D i m k)
  | 0, _ => by
    have e : (fun x y => x < i ∧ y < G ∨ x = i ∧ y < 0) = fun x y => x < i ∧ y < G := by funext x y; simp
    rw [e]; exact h
  | k + 1, hk => (h.row k (by omega)).next (fun x y => by omega)
theorem Most.all (D : Nat → Array Nat) (G : Nat) : ∀ i, Most D (fun x y => x < i ∧ y < G) (mostAll D G i)
  | 0 => ⟨(show isN 0 = false by decide +kernel), (show (0 : Int) ≤ lin 0 by decide +kernel), fun b g h => by omega, Or.inl rfl⟩
  | i + 1 => by
    have e : (fun x y => x < i + 1 ∧ y < G) = fun x y => x < i ∧ y < G ∨ x = i ∧ y < G := by
      funext x y
      simp only [eq_iff_iff]
      omega
    rw [e]
    exact (Most.all D G i).row G (Nat.le_refl _)
/-- Where a cell is above 0, one of the highest is as great as any. -/
theorem most_top {D : Nat → Array Nat} {n G : Nat} (h : gtF (ab (mostAll D G n)) (ab 0) = true) : ∃ b g, b < n ∧ g < G ∧ topB D n G b g = true ∧ eqF (ab (D b)[g]!) (ab (mostAll D G n)) = true := by
  have hm := Most.all D G n
  have z : isN 0 = false := by decide +kernel
  have l0 : lin 0 = 0 := by decide +kernel
  rw [ab_some hm.num, ab_some z, gtF_lin hm.num z, l0, decide_eq_true_eq] at h
  have hex : ∃ b g, b < n ∧ g < G ∧ isN (D b)[g]! = false ∧ lin (D b)[g]! = lin (mostAll D G n) := by
    rcases hm.is with e | ⟨b, g, ⟨h1, h2⟩, h3, h4⟩
    · rw [e, l0] at h; omega
    · exact ⟨b, g, h1, h2, h3, by rw [h4]⟩
  obtain ⟨b, g, hb, hg, ht, hv⟩ := top_greatest h (fun b g hb hg hn => hm.le b g ⟨hb, hg⟩ hn) hex
  have hn := pos_num ((topB_iff hb hg).1 ht).1
  refine ⟨b, g, hb, hg, ht, ?_⟩
  rw [ab_some hn, ab_some hm.num, eqF_lin hn hm.num, hv]
  exact decide_eq_true rfl
/-- Where none is, none is told. -/
theorem most_none {D : Nat → Array Nat} {n : Nat} (h : gtF (ab (mostAll D (shortF D n) n)) (ab 0) = false) : highF D n = [] := by
  have hm := Most.all D (shortF D n) n
  have z : isN 0 = false := by decide +kernel
  have l0 : lin 0 = 0 := by decide +kernel
  rw [ab_some hm.num, ab_some z, gtF_lin hm.num z, l0, decide_eq_false_iff_not] at h
  rw [List.eq_nil_iff_forall_not_mem]
  intro s hs
  obtain ⟨b, g, hb, hg, ht, _⟩ := mem_high.1 hs
  have hp := ((topB_iff hb hg).1 ht).1
  have hn := pos_num hp
  rw [ab_some hn, ab_some z, gtF_lin hn z, l0, decide_eq_true_eq] at hp
  have := hm.le b g ⟨hb, hg⟩ hn
  omega
end Go.Proofs.Ytephkmahnbhmbaa
/- PeaksTops: what its loops reckon. -/
namespace Go.Proofs.Ytephkmahnbhmbaa
open Go.ChangeShapes Go.WideShapes Go.ChangeAt Go.RowKit Go.Fl Go.Sort
attribute [local go_sem] run_store_float call52 run_neg fold_eq fold_ne fold_lt fold_gt abs_eq
set_option maxRecDepth 20000
/-- How many gates the first i rows have. -/
def gtN (D : Nat → Array Nat) (i : Nat) : Nat := if i = 0 then 0 else shN D (i - 1)
theorem gtN_first (D : Nat → Array Nat) : gtN D 1 = (D 0).size := rfl
theorem gtN_next (D : Nat → Array Nat) {i : Nat} (h : 0 < i) : gtN D (i + 1) = min (gtN D i) (D i).size := by
  unfold gtN
  rw [if_neg (by omega), if_neg (by omega)]
  obtain ⟨j, rfl⟩ : ∃ j, i = j + 1 := ⟨i - 1, by omega⟩
  rfl
theorem gtN_all (D : Nat → Array Nat) (n : Nat) : gtN D n = shortF D n := rfl
/-- Was one as great as the greatest among the first a? -/
def fdN (L : List Spt) (m : Nat) (a : Nat) : Bool := eqF (ab m) (ab 0) || (L.take a).any fun s => eqF (ab s.2.2) (ab m)
theorem fdN_next {L : List Spt} {m a : Nat} (h : a < L.length) : fdN L m (a + 1) = (fdN L m a || eqF (ab (L[a]!).2.2) (ab m)) := by
  unfold fdN
  rw [take_snoc h, List.any_append]
  simp [Bool.or_assoc]
theorem fdN_all {D : Nat → Array Nat} {n : Nat} : fdN (highF D n) (mostAll D (shortF D n) n) (highF D n).length = true ∧ (gtF (ab (mostAll D (shortF D n) n)) (ab 0) = true ∨ (highF D n).length = 0) := by
  cases hg : gtF (ab (mostAll D (shortF D n) n)) (ab 0) with
  | true =>
    refine ⟨?_, Or.inl rfl⟩
    obtain ⟨b, g, hb, hg, ht, he⟩ := most_top hg
    unfold fdN
    rw [List.take_length, Bool.or_eq_true]
    right
    rw [List.any_eq_true]
    exact ⟨_, mem_high.2 ⟨b, g, hb, hg, ht, rfl⟩, he⟩
  | false =>
    have e := most_none hg
    refine ⟨?_, Or.inr (by rw [e]; rfl)⟩
    have hm := Most.all D (shortF D n) n
    have z : isN 0 = false := by decide +kernel
    have l0 : lin 0 = 0 := by decide +kernel
    rw [ab_some hm.num, ab_some z, gtF_lin hm.num z, l0, decide_eq_false_iff_not] at hg
    unfold fdN
    rw [ab_some hm.num, ab_some z, eqF_lin hm.num z, l0]
    have := hm.pos
    rw [decide_eq_true (by omega)]; rfl
theorem high_at {D : Nat → Array Nat} {n a : Nat} (h : a < (highF D n).length) : ∃ b g, b < n ∧ g < shortF D n ∧ topB D n (shortF D n) b g = true ∧ (highF D n)[a]! = ((b : Int), (g : Int), (D b)[g]!) := by
  have hm : (highF D n)[a]! ∈ highF D n := by rw [getElem!_pos _ a h]; exact List.getElem_mem _
  exact mem_high.1 hm
end Go.Proofs.Ytephkmahnbhmbaa
/- The document's Highest. -/
namespace Go.Proofs.Ytephkmahnbhmbaa
open Go.ChangeShapes Go.WideShapes Go.ChangeAt Go.RowKit Go.Fl Go.Sort
attribute [local go_sem] run_store_float call52 run_neg fold_eq fold_ne fold_lt fold_gt abs_eq
set_option maxRecDepth 20000
theorem mem_arRow {D : Nat → Array Nat} {n G b g i : Nat} {s : Spt} : ∀ {k : Nat}, s ∈ arRow D n G b g i k ↔ ∃ j, j < k ∧ s ∈ arC D n G b g i j
  | 0 => by simp [arRow]
  | k + 1 => by
    rw [arRow, List.mem_append, mem_arRow (k := k)]
    constructor
    · rintro (⟨j, h1, h2⟩ | h)
      · exact ⟨j, by omega, h2⟩
      · exact ⟨k, by omega, h⟩
    · rintro ⟨j, h1, h2⟩
      by_cases hj : j < k
      · exact Or.inl ⟨j, hj, h2⟩
      · obtain rfl : j = k := by omega
        exact Or.inr h2
theorem mem_arAll {D : Nat → Array Nat} {n G b g : Nat} {s : Spt} : ∀ {i : Nat}, s ∈ arAll D n G b g i ↔ ∃ j, j < i ∧ s ∈ arRow D n G b g j 3
  | 0 => by simp [arAll]
  | i + 1 => by
    rw [arAll, List.mem_append, mem_arAll (i := i)]
    constructor
    · rintro (⟨j, h1, h2⟩ | h)
      · exact ⟨j, by omega, h2⟩
      · exact ⟨i, by omega, h⟩
    · rintro ⟨j, h1, h2⟩
      by_cases hj : j < i
      · exact Or.inl ⟨j, hj, h2⟩
      · obtain rfl : j = i := by omega
        exact Or.inr h2
theorem ar_mem {D : Nat → Array Nat} {n G b g : Nat} {s : Spt} (hb : b < n) (h : s ∈ arF D n G b g) : ∃ x y : Nat, x < n ∧ y < G ∧ s = ((x : Int), (y : Int), (D x)[y]!) := by
  obtain ⟨i, _, h1⟩ := mem_arAll.1 h
  obtain ⟨k, _, h2⟩ := mem_arRow.1 h1
  unfold arC at h2
  split at h2
  · rename_i hc
    rw [List.mem_singleton] at h2
    exact ⟨_, _, arB_lt hb, hc.2, h2⟩
  · simp at h2
theorem ar_has {D : Nat → Array Nat} {n G b g x y : Nat} (hb : b < n) (hx : x < n) (hy : y < G) (hN : Nx n x y b g) : ((x : Int), (y : Int), (D x)[y]!) ∈ arF D n G b g := by
  obtain ⟨n1, n2, _, n4⟩ := hN
  have hi : ∃ i, i < 3 ∧ arB n b i = x := by
    unfold arB
    rcases n4 with h | h | h
    · refine ⟨x + 1 - b, by omega, ?_⟩
      rw [show b + (x + 1 - b) + n - 1 = x + n by omega, Nat.add_mod_right, Nat.mod_eq_of_lt hx]
    · refine ⟨0, by omega, ?_⟩
      rw [show b + 0 + n - 1 = x by omega, Nat.mod_eq_of_lt hx]
    · refine ⟨2, by omega, ?_⟩
      rw [show b + 2 + n - 1 = x + n + n by omega, Nat.add_mod_right, Nat.add_mod_right, Nat.mod_eq_of_lt hx]
  obtain ⟨i, hi, e⟩ := hi
  refine mem_arAll.2 ⟨i, hi, mem_arRow.2 ⟨y + 1 - g, by omega, ?_⟩⟩
  unfold arC
  rw [if_pos (by omega), show g + (y + 1 - g) - 1 = y by omega, e, List.mem_singleton]
/-- Is a cell still highest behind the first a cells about it? -/
def hitB (n : Int) (b g : Int) (pw : Nat) (s : Spt) : Bool := nextB n s.1 s.2.1 b g && beatB s.1 s.2.1 (ab s.2.2) b g (ab pw)
def okA (n : Int) (b g : Int) (pw : Nat) (L : List Spt) (a : Nat) : Bool := gtF (ab pw) (ab 0) && (L.take a).all fun s => !hitB n b g pw s
theorem okA_next {n b g : Int} {pw a : Nat} {L : List Spt} (h : a < L.length) : okA n b g pw L (a + 1) = (okA n b g pw L a && !hitB n b g pw L[a]!) := by
  unfold okA
  rw [take_snoc h, List.all_append]
  simp [Bool.and_assoc]
theorem ok_top {D : Nat → Array Nat} {n G b g : Nat} (hb : b < n) (hg : g < G) : okA n b g (D b)[g]! (arF D n G b g) (arF D n G b g).length = topB D n G b g := by
  rw [Bool.eq_iff_iff, topB_iff hb hg]
  unfold okA
  rw [List.take_length, Bool.and_eq_true, List.all_eq_true]
  refine and_congr_right fun _ => ⟨fun h x y hx hy hN => ?_, fun h s hs => ?_⟩
  · have h1 := h _ (ar_has (D := D) hb hx hy hN)
    unfold hitB at h1
    have h2 : nextB n (x : Int) (y : Int) b g = true := (nextB_iff (by omega)).2 hN
    simp only [h2, Bool.true_and, Bool.not_eq_true', beat_same] at h1
    exact h1
  · obtain ⟨x, y, hx, hy, rfl⟩ := ar_mem hb hs
    unfold hitB
    simp only [beat_same]
    cases hN : nextB n (x : Int) (y : Int) b g with
    | false => simp
    | true =>
      have := h x y hx hy ((nextB_iff (by omega)).1 hN)
      rw [this]; rfl
theorem ar_at {D : Nat → Array Nat} {n G b g a : Nat} (hb : b < n) (h : a < (arF D n G b g).length) : ∃ x y : Nat, x < n ∧ y < G ∧ (arF D n G b g)[a]! = ((x : Int), (y : Int), (D x)[y]!) :=
  ar_mem hb (by rw [getElem!_pos _ a h]; exact List.getElem_mem _)
/-- How many gates the first i rows have, the first one first. -/
def mnN (D : Nat → Array Nat) (i : Nat) : Nat := if i = 0 then (D 0).size else shN D (i - 1)
theorem mnN_next (D : Nat → Array Nat) (i : Nat) : mnN D (i + 1) = min (mnN D i) (D i).size := by
  unfold mnN
  rw [if_neg (by omega)]
  cases i with
  | zero => show (D 0).size = min (D 0).size (D 0).size; omega
  | succ i => rfl
theorem eg31 (args : Array Value) (w : World) : (callFunc 31 args).run Try.prog w = .ok (.enter 31 args) w := enters Try.func31 (by kernel_rfl) (by kernel_rfl) _ _
theorem eg32 (args : Array Value) (w : World) : (callFunc 32 args).run Try.prog w = .ok (.enter 32 args) w := enters Try.func32 (by kernel_rfl) (by kernel_rfl) _ _
set_option maxHeartbeats 8000000 in
theorem t10 {w : World} {p : Option Addr} {n cap : Nat} {D : Nat → Array Nat} (h : MV w p n cap D) (hsz : n * shortF D n ≤ 1000000000000) : Calls Try.prog 10 #[.slice p n cap] w (SR w (highF D n)) := by
  by_cases hn0 : n = 0
  · subst hn0
    go_enter Try.func10, Try.ntmps10
    go_wp2
    go_ret
    exact ⟨none, 0, rfl, SO.nil _ _, Up.refl _⟩
  · have H : Hid (MV w p n cap D) := h
    obtain ⟨i0, hi0, hz0, hz1, hz2⟩ := info_parts info29
    have hfew := h.few
    have e0 : ((n : Int) == 0) = false := by rw [beq_eq_false_iff_ne]; omega
    obtain ⟨G, hG⟩ : ∃ G, shortF D n = G := ⟨_, rfl⟩
    have HG : Hid (shortF D n = G) := hG
    have HGl : Hid (∀ i, i < n → G ≤ (D i).size) := fun i hi => hG ▸ short_le hi
    have hG60 : G ≤ 1152921504606846976 := Nat.le_trans (HGl.out 0 (by omega)) (h.small 0 (by omega))
    have HGM : Hid (mnN D n = G) := by show _ = _; rw [← hG]; unfold mnN shortF; rw [if_neg hn0, if_neg hn0]
    rw [hG] at hsz
    have HSZ : Hid (n * G ≤ 1000000000000) := hsz
    obtain ⟨mb, mo, rfl, hr⟩ := h.rd (by omega)
    have HR : Hid (∀ i, i < n → ∃ q c, w.cell? ⟨mb, mo + i, none⟩ = some (.slice q (D i).size c) ∧ SV w q (D i).size c (D i)) := hr
    obtain ⟨qz, cz, kz, -⟩ := hr 0 (by omega)
    rw [Nat.add_zero] at kz
    obtain ⟨z0, hzz⟩ : ∃ z, (D 0).size = z := ⟨_, rfl⟩
    rw [hzz] at kz
    have HZ0 : Hid (mnN D 0 = z0) := hzz
    have y0 : (0 : Int) < (n : Int) := by omega
    clear h hG hsz hr hzz hn0
    go_enter Try.func10, Try.ntmps10
    go_wp2
    clear kz
    go_loopw [3, 4] (fun v3 v4 wr => ∃ i : Nat, i ≤ n ∧ v4 = .int .i64 i ∧ v3 = .int .i64 (mnN D i) ∧ wr = w) (fun _ v4 _ => n - (intOf v4).toNat)
    case atStart => exact ⟨0, by omega, rfl, by rw [HZ0.out], rfl⟩
    case round =>
      obtain ⟨i, hi, rfl, rfl, hw⟩ := hrel
      replace hw := hw.symm
      subst hw
      by_cases hlt : i < n
      · obtain ⟨qi, ci, ki, -⟩ := HR.out i hlt
        obtain ⟨z, hz⟩ : ∃ z, (D i).size = z := ⟨_, rfl⟩
        have hs := H.out.small i hlt
        rw [hz] at ki hs
        obtain ⟨m0, hm0⟩ : ∃ m, mnN D i = m := ⟨_, rfl⟩
        have HMN : Hid (mnN D (i + 1) = min m0 z) := by show _ = _; rw [mnN_next, hm0, hz]
        rw [hm0]
        have x1 : (i : Int) < (n : Int) := by omega
        have x2 : (0 : Int) ≤ (i : Int) := by omega
        have hmin : (if (z : Int) < (m0 : Int) then (z : Int) else (m0 : Int)) = ((min m0 z : Nat) : Int) := by split <;> omega
        clear hz hm0
        go_wp2
        all_goals
          go_roundw
          case rel => exact ⟨i + 1, by omega, by go_num, by rw [HMN.out]; first | rfl | (congr 1; omega), by first | trivial | rfl⟩
          case measure => simp [intOf]; omega
      · obtain rfl : i = n := by omega
        rw [HGM.out]
        go_wp2
        go_loopw [5, 6, 7, 8, 9, 10, 11, 12] (fun v5 v6 _ _ _ _ _ _ wr => ∃ (j M c : Nat) (q : Option Addr) (L : List Spt), v5 = .slice q M c ∧ v6 = .int .i64 j ∧ j ≤ i ∧ M ≤ 1000000000000 ∧ Hid (L.length = M) ∧ Hid (L = topAll D i G j) ∧ Hid (SO w.heap.size wr (.slice q M c) L) ∧ Hid (Up w wr)) (fun _ v6 _ _ _ _ _ _ _ => i - (intOf v6).toNat)
        case atStart => exact ⟨0, 0, 0, none, [], rfl, rfl, by omega, by omega, rfl, rfl, SO.nil _ _, Up.refl _⟩
        case round =>
          obtain ⟨j, M, c, q, L, rfl, rfl, hj, hM, HM, HL, HO, HU⟩ := hrel
          rename World => W
          by_cases hlj : j < i
          · go_wp2
            go_loopw [5, 7, 8, 9, 10, 11, 12] (fun v5 v7 _ _ _ _ _ wr => ∃ (k M c : Nat) (q : Option Addr) (L : List Spt), v5 = .slice q M c ∧ v7 = .int .i64 k ∧ k ≤ G ∧ M ≤ 1000000000000 ∧ Hid (L.length = M) ∧ Hid (L = topAll D i G j ++ topRow D i G j k) ∧ Hid (SO w.heap.size wr (.slice q M c) L) ∧ Hid (Up w wr)) (fun _ v7 _ _ _ _ _ _ => G - (intOf v7).toNat)
            case atStart => exact ⟨0, M, c, q, L, rfl, rfl, by omega, hM, HM, by show L = _; rw [HL.out]; simp [topRow], HO, HU⟩
            case round =>
              clear HL HO HU HM hM
              obtain ⟨k, M, c, q, L, rfl, rfl, hkG, hM, HM, HL, HO, HU⟩ := hrel
              rename World => W2
              by_cases hkl : k < G
              · obtain ⟨q1, c1, k1, k2⟩ := HR.out j hlj
                obtain ⟨b2, o2, hpe, hr2⟩ := k2.rd (by have := HGl.out j hlj; omega)
                subst hpe
                have cy := cell_up (hr2 k (by have := HGl.out j hlj; omega)) HU.out
                have cr := cell_up k1 HU.out
                have hzG := HGl.out j hlj
                have hsm := H.out.small j hlj
                obtain ⟨z, hz⟩ : ∃ z, (D j).size = z := ⟨_, rfl⟩
                rw [hz] at cr hzG hsm
                obtain ⟨pw, hpw⟩ : ∃ y, (D j)[k]! = y := ⟨_, rfl⟩
                rw [hpw] at cy
                have HPW : Hid ((D j)[k]! = pw) := hpw
                clear hr2 k1 k2 hz hpw
                have hMl : M + 1 ≤ 1000000000000 := by
                  have l1 := topAll_len D i G j
                  have l2 := topRow_len D i G j k
                  have l3 := HM.out
                  rw [HL.out, List.length_append] at l3
                  have l4 := Nat.mul_le_mul_right G (show j + 1 ≤ i by omega)
                  have l5 := HSZ.out
                  rw [Nat.add_mul, Nat.one_mul] at l4
                  omega
                have s1 : (j : Int) < (i : Int) := by omega
                have s2 : (k : Int) < (G : Int) := by omega
                have s3 : (k : Int) < (z : Int) := by omega
                obtain ⟨M2, hM2⟩ : ∃ m, (arF D i G j k).length = m := ⟨_, rfl⟩
                have HM2 : Hid ((arF D i G j k).length = M2) := hM2
                have hM9 : M2 ≤ 9 := by rw [← hM2]; exact arAll_len D i G j k 3
                have C30 : Hid (Calls Try.prog 30 #[.slice (some ⟨mb, mo, none⟩) i cap, .int .i64 j, .int .i64 k, .int .i64 G] (W2.alloc (.cells #[.int .i64 j, .int .i64 k, .float .f64 pw] 29)) fun e w' => ∃ q c, e = .returned (.slice q M2 c) ∧ Hid (SO (W2.alloc (.cells #[.int .i64 j, .int .i64 k, .float .f64 pw] 29)).heap.size w' (.slice q M2 c) (arF D i G j k)) ∧ Hid (Up (W2.alloc (.cells #[.int .i64 j, .int .i64 k, .float .f64 pw] 29)) w')) := hM2 ▸ t30 (H.out.up (HU.out.trans (Up.alloc _ _))) hlj hkl HGl.out
                clear hM2
                have HC0 : Hid _ := three_box W2 (.int .i64 j) (.int .i64 k) (.float .f64 pw) 29
                go_wp2_with (go_at_call 30; (with_reducible refine C30.out.mono ?_); rintro e w4 ⟨q2, c2, rfl, HSO, HU4⟩; (have b0 := cell_up HC0.out.1 HU4.out); (have b1 := cell_up HC0.out.2.1 HU4.out); (have b2 := cell_up HC0.out.2.2 HU4.out))
                have HB4 : Hid (w4.cell? ⟨W2.heap.size, 0, none⟩ = some (.int .i64 j) ∧ w4.cell? ⟨W2.heap.size, 1, none⟩ = some (.int .i64 k) ∧ w4.cell? ⟨W2.heap.size, 2, none⟩ = some (.float .f64 pw)) := ⟨b0, b1, b2⟩
                have HUW : Hid (Up W2 w4) := (Up.alloc _ _).trans HU4.out
                clear b0 b1 b2 cy cr C30 HC0 HU4
                go_loopw [10, 11, 12] (fun v10 v11 _ wr4 => ∃ a : Nat, a ≤ M2 ∧ v11 = .int .i64 a ∧ v10 = .bool (okA i j k pw (arF D i G j k) a) ∧ Hid (Up w4 wr4)) (fun _ v11 _ _ => M2 - (intOf v11).toNat)
                case atStart => exact ⟨0, by omega, rfl, by unfold okA; simp, Up.refl _⟩
                case round =>
                  obtain ⟨a, ha, rfl, rfl, HUA⟩ := hrel
                  rename World => wr4
                  by_cases hla : a < M2
                  · obtain ⟨x, y, hx, hy, hs⟩ := ar_at (D := D) (G := G) (g := k) (a := a) hlj (by rw [HM2.out]; exact hla)
                    obtain ⟨r, hq, hor, -, -⟩ := so_row HSO.out (by rw [HM2.out]; omega)
                    subst hq
                    obtain ⟨⟨l0, l1, l2⟩, -⟩ := (hor.up HUA.out).cell (i := a) (by have := HM2.out; simp; omega)
                    have es : (arF D i G j k).toArray[a]! = (arF D i G j k)[a]! := by simp
                    rw [es, hs] at l0 l1 l2
                    simp only at l0 l1 l2
                    obtain ⟨v, hv⟩ : ∃ v, (D x)[y]! = v := ⟨_, rfl⟩
                    rw [hv] at l2 hs
                    obtain ⟨nx, hnx⟩ : ∃ b, nextB i x y j k = b := ⟨_, rfl⟩
                    obtain ⟨bt, hbt⟩ : ∃ b, beatB x y (ab v) j k (ab pw) = b := ⟨_, rfl⟩
                    have HOK : Hid (okA i j k pw (arF D i G j k) (a + 1) = (okA i j k pw (arF D i G j k) a && !(nx && bt))) := by
                      show _ = _
                      rw [okA_next (by rw [HM2.out]; exact hla), hs]
                      unfold hitB
                      simp only [hnx, hbt]
                    have C31 : Hid (∀ w, Calls Try.prog 31 #[.int .i64 i, .agg #[.int .i64 x, .int .i64 y, .float .f64 v], .agg #[.int .i64 j, .int .i64 k, .float .f64 pw]] w (VU w (.bool nx))) := fun w => hnx ▸ t31 v pw w (by omega) (by omega) (by omega) (by omega) (by omega) (by omega) (by omega) (by omega) (by omega) (by omega)
                    have C32 : Hid (∀ w, Calls Try.prog 32 #[.agg #[.int .i64 x, .int .i64 y, .float .f64 v], .agg #[.int .i64 j, .int .i64 k, .float .f64 pw]] w (VU w (.bool bt))) := fun w => hbt ▸ t32 x y v j k pw w
                    obtain ⟨m0, m1, m2⟩ := HB4.out
                    replace m0 := cell_up m0 HUA.out
                    replace m1 := cell_up m1 HUA.out
                    replace m2 := cell_up m2 HUA.out
                    clear es hs hor hv hnx hbt
                    obtain ⟨ok, hok⟩ : ∃ b, okA i j k pw (arF D i G j k) a = b := ⟨_, rfl⟩
                    rw [hok] at HOK
                    rw [hok]
                    clear hok
                    have n1 : (a : Int) < (M2 : Int) := by omega
                    have n2 : (0 : Int) ≤ (a : Int) := by omega
                    go_wp2_with fail
                    refine wp_region_shut 8 [(0, none), (1, none), (2, none), (3, none), (4, none), (5, some false), (6, some false), (7, some true)] (fun w' => Up wr4 w') (by kernel_rfl) (by decide) rfl (by kernel_rfl) (fun _ _ d _ _ h => by cases d <;> exact h) (Up.drewN wr4 1) ?_
                    refine OrdS.looks (.slice (some ⟨mb, mo, none⟩) i cap) (some 68) _ rfl rfl (Or.inl ⟨by kernel_rfl, fun w' hS => ?_⟩) ?_
                    · go_simp
                    refine OrdS.looks (.int .i64 i) (some 69) _ rfl rfl (Or.inl ⟨by kernel_rfl, fun w' hS => ?_⟩) ?_
                    · go_simp
                    refine OrdS.looks (.slice (some ⟨r, 0, none⟩) M2 c2) (some 70) _ rfl rfl (Or.inl ⟨by kernel_rfl, fun w' hS => ?_⟩) ?_
                    · go_simp
                    refine OrdS.looks (.int .i64 a) (some 71) _ rfl rfl (Or.inl ⟨by kernel_rfl, fun w' hS => ?_⟩) ?_
                    · go_simp
                    refine OrdS.looks (.pointer (some ⟨r, a * 3, none⟩)) (some 72) _ rfl rfl (Or.inl ⟨by kernel_rfl, fun w' hS => ?_⟩) ?_
                    · go_simp
                    refine OrdS.reads (.agg #[.int .i64 x, .int .i64 y, .float .f64 v]) (some 73) _ rfl rfl (Or.inl ⟨by kernel_rfl, fun w' hS => ?_⟩) ?_
                    · have q0 := cell_up l0 hS
                      have q1 := cell_up l1 hS
                      have q2 := cell_up l2 hS
                      go_simp
                    refine OrdS.reads (.agg #[.int .i64 j, .int .i64 k, .float .f64 pw]) (some 74) _ rfl rfl (Or.inl ⟨by kernel_rfl, fun w' hS => ?_⟩) ?_
                    · have q0 := cell_up m0 hS
                      have q1 := cell_up m1 hS
                      have q2 := cell_up m2 hS
                      go_simp
                    simp only [Act.put, List.setIfInBounds_toArray, List.set_cons_succ, List.set_cons_zero]
                    refine OrdS.does ?_
                    refine wpOp_callG (f := 31) (some 75) rfl rfl (by kernel_rfl) rfl #[.int .i64 i, .agg #[.int .i64 x, .int .i64 y, .float .f64 v], .agg #[.int .i64 j, .int .i64 k, .float .f64 pw]] (by kernel_rfl) (eg31 _ _) ?_
                    refine (C31.out _).mono ?_
                    rintro e wx ⟨rfl, HUwx⟩
                    have HXwx : Hid (Up wr4 wx) := (show Up wr4 wr4.drew from Up.drewN wr4 1).trans HUwx.out.up
                    refine ⟨_, rfl, HXwx.out, ?_⟩
                    refine OrdS.ends ?_
                    simp only [List.drop_succ_cons, List.drop_zero, Act.put, List.setIfInBounds_toArray, List.set_cons_succ, List.set_cons_zero]
                    go_wp2_with fail
                    replace l0 := cell_up l0 HXwx.out
                    replace l1 := cell_up l1 HXwx.out
                    replace l2 := cell_up l2 HXwx.out
                    replace m0 := cell_up m0 HXwx.out
                    replace m1 := cell_up m1 HXwx.out
                    replace m2 := cell_up m2 HXwx.out
                    have HXA : Hid (Up w4 wx) := HUA.out.trans HXwx.out
                    clear HXwx HUwx HUA
                    cases ok
                    · go_quiet (fail)
                      go_wp2
                      go_roundw
                      case rel => exact ⟨a + 1, by omega, by go_num, by rw [HOK.out]; simp, HXA.out.trans (Up.drewN _ _)⟩
                      case measure => simp [intOf]; omega
                    · cases nx
                      · go_quiet (fail)
                        go_wp2
                        go_roundw
                        case rel => exact ⟨a + 1, by omega, by go_num, by rw [HOK.out]; simp, HXA.out.trans (Up.drewN _ _)⟩
                        case measure => simp [intOf]; omega
                      · skip
                        refine wp_region_shut 13 [(0, none), (1, none), (2, none), (3, none), (4, none), (5, none), (6, none), (7, some false), (8, some false), (9, some true), (10, none), (11, none), (12, none)] (fun w' => Up wx w') (by kernel_rfl) (by decide) rfl (by kernel_rfl) (fun _ _ d _ _ h => by cases d <;> exact h) (Up.drewN wx 1) ?_
                        refine OrdS.looks (.bool true) (some 76) _ rfl rfl (Or.inl ⟨by kernel_rfl, fun w' hS => ?_⟩) ?_
                        · go_simp
                        refine OrdS.looks (.bool true) (some 77) _ rfl rfl (Or.inl ⟨by kernel_rfl, fun w' hS => ?_⟩) ?_
                        · go_simp
                        refine OrdS.looks (.bool true) (some 78) _ rfl rfl (Or.inl ⟨by kernel_rfl, fun w' hS => ?_⟩) ?_
                        · go_simp
                        refine OrdS.looks (.bool true) (some 79) _ rfl rfl (Or.inl ⟨by kernel_rfl, fun w' hS => ?_⟩) ?_
                        · go_simp
                        refine OrdS.looks (.slice (some ⟨r, 0, none⟩) M2 c2) (some 80) _ rfl rfl (Or.inl ⟨by kernel_rfl, fun w' hS => ?_⟩) ?_
                        · go_simp
                        refine OrdS.looks (.int .i64 a) (some 81) _ rfl rfl (Or.inl ⟨by kernel_rfl, fun w' hS => ?_⟩) ?_
                        · go_simp
                        refine OrdS.looks (.pointer (some ⟨r, a * 3, none⟩)) (some 82) _ rfl rfl (Or.inl ⟨by kernel_rfl, fun w' hS => ?_⟩) ?_
                        · go_simp
                        refine OrdS.reads (.agg #[.int .i64 x, .int .i64 y, .float .f64 v]) (some 83) _ rfl rfl (Or.inl ⟨by kernel_rfl, fun w' hS => ?_⟩) ?_
                        · have q0 := cell_up l0 hS
                          have q1 := cell_up l1 hS
                          have q2 := cell_up l2 hS
                          go_simp
                        refine OrdS.reads (.agg #[.int .i64 j, .int .i64 k, .float .f64 pw]) (some 84) _ rfl rfl (Or.inl ⟨by kernel_rfl, fun w' hS => ?_⟩) ?_
                        · have q0 := cell_up m0 hS
                          have q1 := cell_up m1 hS
                          have q2 := cell_up m2 hS
                          go_simp
                        simp only [Act.put, List.setIfInBounds_toArray, List.set_cons_succ, List.set_cons_zero]
                        refine OrdS.does ?_
                        refine wpOp_callG (f := 32) (some 85) rfl rfl (by kernel_rfl) rfl #[.agg #[.int .i64 x, .int .i64 y, .float .f64 v], .agg #[.int .i64 j, .int .i64 k, .float .f64 pw]] (by kernel_rfl) (eg32 _ _) ?_
                        refine (C32.out _).mono ?_
                        rintro e wy ⟨rfl, HUwy⟩
                        have HXwy : Hid (Up wx wy) := (show Up wx wx.drew from Up.drewN wx 1).trans HUwy.out.up
                        refine ⟨_, rfl, HXwy.out, ?_⟩
                        simp only [Act.put, List.setIfInBounds_toArray, List.set_cons_succ, List.set_cons_zero]
                        refine OrdS.looks (.bool bt) (some 86) _ rfl rfl (Or.inl ⟨by kernel_rfl, fun w' hS => ?_⟩) ?_
                        · go_simp
                        refine OrdS.looks (.bool (!bt)) (some 87) _ rfl rfl (Or.inl ⟨by kernel_rfl, fun w' hS => ?_⟩) ?_
                        · go_simp
                        refine OrdS.looks (.bool (!bt)) (some 88) _ rfl rfl (Or.inl ⟨by kernel_rfl, fun w' hS => ?_⟩) ?_
                        · go_simp
                        refine OrdS.ends ?_
                        simp only [List.drop_succ_cons, List.drop_zero, Act.put, List.setIfInBounds_toArray, List.set_cons_succ, List.set_cons_zero]
                        go_wp2
                        go_roundw
                        case rel => exact ⟨a + 1, by omega, by go_num, by rw [HOK.out]; simp, HXA.out.trans HXwy.out⟩
                        case measure => simp [intOf]; omega
                  · obtain rfl : a = M2 := by omega
                    have hokt : okA i j k pw (arF D i G j k) a = topB D i G j k := by
                      have := ok_top (D := D) (n := i) (G := G) hlj hkl
                      rw [HPW.out, HM2.out] at this
                      exact this
                    rw [hokt]
                    clear hokt
                    obtain ⟨tp, htp⟩ : ∃ b, topB D i G j k = b := ⟨_, rfl⟩
                    rw [htp]
                    have HTP : Hid (topB D i G j k = tp) := htp
                    clear htp
                    have HUB : Hid (Up w wr4) := (HU.out.trans HUW.out).trans HUA.out
                    have HOB : Hid (SO w.heap.size wr4 (.slice q M c) L) := HO.out.up (HUW.out.trans HUA.out)
                    obtain ⟨m0, m1, m2⟩ := HB4.out
                    replace m0 := cell_up m0 HUA.out
                    replace m1 := cell_up m1 HUA.out
                    replace m2 := cell_up m2 HUA.out
                    cases tp
                    · go_wp2
                      go_roundw
                      case rel =>
                        refine ⟨k + 1, M, c, q, L, rfl, by go_num, by omega, hM, HM, ?_, HOB, HUB⟩
                        show _ = _
                        rw [HL.out, topRow, HTP.out]; simp
                      case measure => simp [intOf]; omega
                    · have sz : w.heap.size ≤ wr4.heap.size := RowKit.Below.size HUB.out
                      have hown : wr4.ownsRow w.heap.size 29 3 (.slice q M c) M (L.flatMap spC) := by have := HOB.out; unfold SO at this; rw [HM.out] at this; exact this
                      go_wp2_with (at_builtin; refine wpList_append_own _ rfl _ _ 25 rfl w.heap.size 29 i0 (.agg #[.int .i64 0, .int .i64 0, .float .f64 0]) 3 24 Try.underlying25 hi0 hz0 hz1 hz2 rfl (by decide) _ _ _ rfl (hown.alloc _) ⟨wr4.heap.size, 0, none⟩ 1 1 [.int .i64 j, .int .i64 k, .float .f64 pw] rfl rfl (three_new _ _ _ _ _) (three_one rfl rfl rfl) (by unfold maxLen; omega) (by omega) (by simp; omega) ?_)
                      intro v' w6 hown' hgrow _
                      have R3 := so_push (s := (j, k, pw)) (Nat.le_refl _) HM.out hown HUB.out hown' hgrow
                      have U6 : Hid (Up w w6) := R3.2
                      obtain ⟨p', c', hv', _⟩ := own_form hown'
                      subst hv'
                      have S6 : Hid (SO w.heap.size w6 (.slice p' (M + 1) c') (L ++ [((j : Int), (k : Int), pw)])) := R3.1
                      clear R3 hown' hgrow hown HO HOB m0 m1 m2
                      go_wp2
                      go_roundw
                      case rel =>
                        refine ⟨k + 1, M + 1, c', p', L ++ [((j : Int), (k : Int), pw)], rfl, by go_num, by omega, hMl, by show _ = _; rw [List.length_append, HM.out]; rfl, ?_, S6, U6⟩
                        show _ = _
                        rw [HL.out, topRow, HTP.out, HPW.out]; simp
                      case measure => simp [intOf]; omega
              · obtain rfl : k = G := by omega
                go_wp2
                go_roundw
                case rel => exact ⟨j + 1, M, c, q, L, rfl, by go_num, by omega, hM, HM, by show _ = _; rw [HL.out, topAll], HO, HU⟩
                case measure => simp [intOf]; omega
          · obtain rfl : j = i := by omega
            go_wp2
            go_ret
            have e : highF D j = L := by unfold highF; rw [HG.out, HL.out]
            rw [e]
            exact ⟨q, c, by rw [HM.out]; rfl, by rw [HM.out]; exact HO, HU⟩
end Go.Proofs.Ytephkmahnbhmbaa

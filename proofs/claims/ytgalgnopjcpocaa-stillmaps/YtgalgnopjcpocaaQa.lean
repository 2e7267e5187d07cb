/- Rows of one's own, whatever stands in them; Weights, the program's and the reference's. -/
import Derived.Test.YtgalgnopjcpocaaV
import Derived.Deep.QuietTactic
import Derived.BigQuiet
namespace Go.Proofs.Ytgalgnopjcpocaa
open Go.ChangeShapes Go.WideShapes Go.ChangeAt Go.RowKit Go.Fl Ieee

/-- A row of one's own. -/
def OR {α : Type} (enc : α → Value) (t : TypeId) (b : Nat) (w : World) (v : Value) (d : List α) : Prop := w.ownsRow b t 1 v d.length (d.map enc)
theorem OR.up {α : Type} {enc : α → Value} {t : TypeId} {b : Nat} {w w' : World} {v : Value} {d : List α} (h : OR enc t b w v d) (hu : Up w w') : OR enc t b w' v d := owns_up h hu
theorem OR.base {α : Type} {enc : α → Value} {t : TypeId} {b b' : Nat} {w : World} {v : Value} {d : List α} (h : OR enc t b w v d) (hb : b' ≤ b) : OR enc t b' w v d := by
  obtain ⟨h1, h2⟩ := h
  refine ⟨h1, ?_⟩
  rcases h2 with h2 | ⟨g, cap, cur, rfl, k2, k3⟩
  · exact Or.inl h2
  · exact Or.inr ⟨g, cap, cur, rfl, Nat.le_trans hb k2, k3⟩
theorem OR.nil {α : Type} (enc : α → Value) (t : TypeId) (b : Nat) (w : World) : OR enc t b w (.slice none 0 0) [] := ⟨by simp, Or.inl ⟨rfl, rfl⟩⟩
theorem OR.form {α : Type} {enc : α → Value} {t : TypeId} {b : Nat} {w : World} {v : Value} {d : List α} (h : OR enc t b w v d) : ∃ p cap, v = .slice p d.length cap ∧ (0 < d.length → ∃ g, p = some ⟨g, 0, none⟩) := own_form h
theorem OR.cell {α : Type} [Inhabited α] {enc : α → Value} {t : TypeId} {b g n cap : Nat} {w : World} {d : List α} (h : OR enc t b w (.slice (some ⟨g, 0, none⟩) n cap) d) {i : Nat} (hi : i < d.length) : w.cell? ⟨g, i, none⟩ = some (enc d[i]!) := by
  obtain ⟨p, cap', he, _⟩ := own_form h
  simp only [Value.slice.injEq] at he
  obtain ⟨rfl, rfl, rfl⟩ := he
  rw [World.ownsRow.cellAt h i (by omega)]
  rw [List.getElem?_map, List.getElem?_eq_getElem hi, getElem!_pos d i hi]
  rfl
theorem OR.len {α : Type} {enc : α → Value} {t : TypeId} {b n cap : Nat} {p : Option Addr} {w : World} {d : List α} (h : OR enc t b w (.slice p n cap) d) : d.length = n := by
  obtain ⟨p, cap', he, _⟩ := own_form h
  simp only [Value.slice.injEq] at he
  exact he.2.1.symm
theorem OR.put {α : Type} {enc : α → Value} {t : TypeId} {b g n cap : Nat} {w : World} {d : List α} (h : OR enc t b w (.slice (some ⟨g, 0, none⟩) n cap) d) (k : Nat) (r : α) : OR enc t b (w.setCell ⟨g, k, none⟩ (enc r)) (.slice (some ⟨g, 0, none⟩) n cap) (d.set k r) ∧ But g w (w.setCell ⟨g, k, none⟩ (enc r)) := by
  have hn := h.len
  subst hn
  obtain ⟨s1, s2⟩ := World.ownsRow.stored h k (enc r)
  refine ⟨?_, s2⟩
  unfold OR
  rw [List.length_set, List.map_set]
  exact s1
theorem OR.frz {α : Type} {enc : α → Value} {t : TypeId} {b g n cap : Nat} {w : World} {d : List α} (h : OR enc t b w (.slice (some ⟨g, 0, none⟩) n cap) d) (i : Nat) : w.frozen? ⟨g, i, none⟩ = false := by
  have hn := h.len
  subst hn
  exact World.ownsRow.frozenAt h i
theorem OR.at_ {α : Type} {enc : α → Value} {t : TypeId} {b g n cap : Nat} {w : World} {d : List α} (h : OR enc t b w (.slice (some ⟨g, 0, none⟩) n cap) d) : b ≤ g ∧ g < w.heap.size := World.ownsRow.lt h g rfl
theorem OR.far {α : Type} {enc : α → Value} {t : TypeId} {b g : Nat} {w w' : World} {v : Value} {d : List α} (h : OR enc t b w v d) (hb : But g w w') (hne : v.ownBlock ≠ some g) : OR enc t b w' v d := by
  have hl := h.lt
  obtain ⟨h1, h2⟩ := h
  refine ⟨h1, ?_⟩
  rcases h2 with h2 | ⟨g0, cap0, cur, rfl, k2, k3, k4⟩
  · exact Or.inl h2
  · refine Or.inr ⟨g0, cap0, cur, rfl, k2, ?_, k4⟩
    rw [hb.block g0 (hl g0 rfl).2 (by simpa [Value.ownBlock] using hne)]; exact k3
theorem grown_up {w0 w w' : World} {row : Option Nat} (hu : Up w0 w) (hg : w.grownBy w' row) (hb : ∀ j, row = some j → w0.heap.size ≤ j) : Up w0 w' := Below.grown hu hg hu.size hb
theorem get_set' {α : Type} [Inhabited α] (R : List α) (i : Nat) (z : α) {j : Nat} (hj : j < R.length) : (R.set i z)[j]! = if j = i then z else R[j]! := by
  rw [getElem!_pos _ j (by simpa using hj), List.getElem_set, getElem!_pos R j hj]
  by_cases e : i = j
  · subst e; simp
  · rw [if_neg e, if_neg (by omega)]
theorem rep_at {α : Type} [Inhabited α] (x : α) {k j : Nat} (h : j < k) : (List.replicate k x)[j]! = x := by
  rw [getElem!_pos _ j (by simpa using h)]; simp
/-- Rows of whole numbers; of floats. -/
def IRw (b : Nat) (w : World) (v : Value) (d : List Int) : Prop := OR (Value.int .i64) 2 b w v d
def FO (b : Nat) (w : World) (v : Value) (d : List Nat) : Prop := OR (Value.float .f64) 26 b w v d
set_option maxRecDepth 20000 in
theorem info2 : (Try.prog.info? 2).map (fun i => (i.zero, i.size, i.bytes)) = some (some (.int .i64 0), 1, 8) := by kernel_rfl
set_option maxRecDepth 20000 in
theorem info26 : (Try.prog.info? 26).map (fun i => (i.zero, i.size, i.bytes)) = some (some (.float .f64 0), 1, 8) := by kernel_rfl
theorem one_cell {v : Value} (h : v.oneCell' = true) : ∀ u ∈ [v], u.oneCell' = true := by
  intro u hu; simp at hu; subst hu; exact h
theorem one_new (w : World) (x : Value) (t : TypeId) : ∀ (j : Nat) (u : Value), [x][j]? = some u → (w.alloc (.cells #[x] t)).cell? ((⟨w.heap.size, 0, none⟩ : Addr).add j) = some u := by
  intro j u hj
  match j, hj with
  | 0, hj => simp at hj; subst hj; exact World.cell?_alloc_at _ _ _ _ rfl
/-- Pascal's rows; with signs. -/
def pas : Nat → List Int
  | 0 => [1]
  | n + 1 => List.zipWith (· + ·) (0 :: pas n) (pas n ++ [0])
def wgt (n j : Nat) : Int := if (n - j) % 2 = 1 then -(pas n)[j]! else (pas n)[j]!
def wts (n : Nat) : List Int := (List.range (n + 1)).map (wgt n)
theorem wgt_step : ∀ n, n < 9 → ∀ j, j < n → (-(wgt n (j + 1)) * ((j : Int) + 1)).tdiv ((n : Int) - j) = wgt n j := by decide +kernel
theorem wgt_small : ∀ n, n < 9 → ∀ j, j < n + 1 → -70 ≤ wgt n j ∧ wgt n j ≤ 70 := by decide +kernel
theorem wgt_last : ∀ n, n < 9 → wgt n n = 1 := by decide +kernel
theorem wts_len (n : Nat) : (wts n).length = n + 1 := by simp [wts]
theorem wts_at {n j : Nat} (h : j < n + 1) : (wts n)[j]! = wgt n j := by
  rw [getElem!_pos _ j (by rw [wts_len]; exact h)]; simp [wts]
theorem wts_of {n : Nat} {d : List Int} (hl : d.length = n + 1) (h : ∀ i, i ≤ n → d[i]! = wgt n i) : d = wts n := by
  refine List.ext_getElem (by rw [hl, wts_len]) fun i h1 h2 => ?_
  have := h i (by omega)
  rw [getElem!_pos d i h1] at this
  rw [this, ← wts_at (by omega), getElem!_pos _ i h2]
def WL (w : World) (d : List Int) (e : Ending) (w' : World) : Prop := ∃ p cap, e = .returned (.slice p d.length cap) ∧ Hid (IRw w.heap.size w' (.slice p d.length cap) d) ∧ Hid (Up w w')
set_option maxRecDepth 20000 in
theorem t29 (o : Int) (w : World) : Calls Try.prog 29 #[.int .i64 o] w fun e w' => e = .returned (.bool (decide (0 ≤ o) && decide (o ≤ 8))) ∧ w' = w := by
  go_enter Try.func29, Try.ntmps29
  go_wp2
  all_goals (go_ret; go_tidy; simp_all; try omega)
theorem t29k {o : Int} {b : Bool} (h : (decide (0 ≤ o) && decide (o ≤ 8)) = b) (w : World) : Calls Try.prog 29 #[.int .i64 o] w fun e w' => e = .returned (.bool b) ∧ w' = w := by
  rw [← h]; exact t29 o w
set_option maxRecDepth 20000 in
theorem t9n {o : Int} (h : (decide (0 ≤ o) && decide (o ≤ 8)) = false) (w : World) : Calls Try.prog 9 #[.int .i64 o] w (WL w []) := by
  have H : Hid ((decide (0 ≤ o) && decide (o ≤ 8)) = false) := h
  clear h
  go_enter Try.func9, Try.ntmps9
  go_wp2_with (go_at_call 29; (with_reducible refine (t29k H.out _).mono ?_); rintro e w' ⟨rfl, rfl⟩)
  go_ret
  exact ⟨none, 0, rfl, OR.nil _ _ _ _, Up.refl _⟩
theorem made_int (n : Nat) : (madeCells (Value.int .i64 0).cells (n * 1)).toList = (List.replicate n (0 : Int)).map (Value.int .i64) := by
  rw [Nat.mul_one]
  show (madeCells #[Value.int .i64 0] n).toList = _
  rw [toList_madeCells_one]; simp
/-- The weights from j on are laid. -/
def WI (w wr : World) (g n m j : Nat) (d : List Int) : Prop := IRw w.heap.size wr (.slice (some ⟨g, 0, none⟩) m m) d ∧ Up w wr ∧ ∀ i, j ≤ i → i ≤ n → d[i]! = wgt n i
theorem WI.put {w wr : World} {g n m j : Nat} {d : List Int} (h : WI w wr g n m (j + 1) d) {z : Int} (hm : n < m) (hz : z = wgt n j) : WI w (wr.setCell ⟨g, j, none⟩ (.int .i64 z)) g n m j (d.set j z) := by
  obtain ⟨h1, h2, h3⟩ := h
  obtain ⟨s1, s2⟩ := OR.put h1 j z
  refine ⟨s1, s2.up h2 (OR.at_ h1).1, fun i hi hn => ?_⟩
  rw [get_set' d j z (by rw [OR.len h1]; omega)]
  by_cases e : i = j
  · subst e; rw [if_pos rfl]; exact hz
  · rw [if_neg e]; exact h3 i (by omega) hn
set_option maxRecDepth 20000 in
set_option maxHeartbeats 1000000 in
theorem t9 {n : Nat} (h : n < 9) (w : World) : Calls Try.prog 9 #[.int .i64 n] w (WL w (wts n)) := by
  have H : Hid ((decide ((0 : Int) ≤ (n : Int)) && decide ((n : Int) ≤ 8)) = true) := by show _ = _; simp; omega
  obtain ⟨i0, hi, hz0, hz1, hz2⟩ := info_parts info2
  obtain ⟨m, hm⟩ : ∃ m, n + 1 = m := ⟨_, rfl⟩
  have HM : Hid (n + 1 = m) := hm
  have hn : (n : Int) + 1 = (m : Int) := by omega
  have hb1 : (n : Int) ≤ 8 := by omega
  have hb0 : (0 : Int) ≤ (n : Int) := by omega
  have hb2 : (n : Int) < (m : Int) := by omega
  clear hm
  go_enter Try.func9, Try.ntmps9
  go_wp2_with (first
    | (go_at_call 29; (with_reducible refine (t29k H.out _).mono ?_); rintro e w' ⟨rfl, hw⟩; subst w')
    | (refine wpList_make_full _ rfl _ _ 22 rfl w.heap.size 2 i0 (.int .i64 0) 1 Try.underlying22 hi hz0 hz1 .i64 .i64 _ _ m rfl rfl rfl rfl (by rw [hz2]; omega) (by unfold maxLen; omega) (Nat.le_refl _) ?_; intro w1 hown hgr
       have HO : Hid (IRw w.heap.size w1 (.slice (some ⟨w.heap.size, 0, none⟩) m m) (List.replicate m 0)) := by
         rw [made_int] at hown; show OR _ _ _ _ _ _; unfold OR; simpa using hown
       have HU : Hid (Up w w1) := Below.grown (Below.refl _ _) hgr (Nat.le_refl _) (fun j hj => by cases hj)
       have c0 := HO.out.cell (i := n) (by simp; omega)
       have f0 := HO.out.frz n
       generalize (List.replicate m (0 : Int))[n]! = z0 at c0
       clear hown hgr))
  have HI : Hid (WI w (w1.setCell ⟨w.heap.size, n, none⟩ (.int .i64 1)) w.heap.size n m n ((List.replicate m 0).set n 1)) := by
    obtain ⟨s1, s2⟩ := OR.put HO.out n 1
    refine ⟨s1, s2.up HU.out (OR.at_ HO.out).1, fun i h1 h2 => ?_⟩
    obtain rfl : i = n := by omega
    rw [get_set' _ _ _ (by simp; have := HM.out; omega), if_pos rfl, wgt_last i h]
  generalize (w1.setCell ⟨w.heap.size, n, none⟩ (.int .i64 1)) = w2 at *
  generalize (List.replicate m (0 : Int)).set n 1 = d0 at HI
  clear c0 f0 HO HU
  go_loopw [4] (fun vi wr => ∃ (j : Nat) (d : List Int), j ≤ n ∧ vi = .int .i64 j ∧ Hid (WI w wr w.heap.size n m j d)) (fun vi _ => (intOf vi).toNat)
  case atStart => exact ⟨n, d0, by omega, rfl, HI⟩
  case round =>
    clear HI
    obtain ⟨j, d, hj, rfl, HI⟩ := hrel
    rcases Nat.eq_zero_or_pos j with rfl | hp
    · go_wp2
      go_ret
      have e : d = wts n := wts_of (by rw [OR.len HI.out.1]; exact HM.out.symm) (fun i hi => HI.out.2.2 i (by omega) hi)
      have e2 : (wts n).length = m := by rw [wts_len]; exact HM.out
      refine ⟨some ⟨w.heap.size, 0, none⟩, m, by rw [e2]; rfl, ?_, HI.out.2.1⟩
      rw [e2, ← e]; exact HI.out.1
    · obtain ⟨k, hk⟩ : ∃ k, j = k + 1 := ⟨j - 1, by omega⟩
      have HK : Hid (j = k + 1) := hk
      have c1 := HI.out.1.cell (i := j) (by rw [OR.len HI.out.1]; have := HM.out; omega)
      rw [HI.out.2.2 j (by omega) hj] at c1
      have c0 := HI.out.1.cell (i := k) (by rw [OR.len HI.out.1]; have := HM.out; omega)
      have f0 := HI.out.1.frz k
      generalize d[k]! = z0 at c0
      obtain ⟨b1, b2⟩ := wgt_small n h j (by omega)
      have q := wgt_step n h k (by omega)
      rw [← hk, show (k : Int) + 1 = (j : Int) by omega, show (n : Int) - (k : Int) = (n : Int) - (j : Int) + 1 by omega] at q
      have HZ : Hid (∀ z, z = wgt n k → WI w (wr.setCell ⟨w.heap.size, k, none⟩ (.int .i64 z)) w.heap.size n m k (d.set k z)) := fun z hz => (HK.out ▸ HI.out).put (by have := HM.out; omega) hz
      obtain ⟨b3, b4⟩ := wgt_small n h k (by omega)
      generalize wgt n j = a at c1 b1 b2 q
      generalize wgt n k = b at q HZ b3 b4
      obtain ⟨y, hy⟩ : ∃ y : Int, -a * (j : Int) = y := ⟨_, rfl⟩
      have y1 : -1000 ≤ y ∧ y ≤ 1000 := by
        rcases (show j = 1 ∨ j = 2 ∨ j = 3 ∨ j = 4 ∨ j = 5 ∨ j = 6 ∨ j = 7 ∨ j = 8 by omega) with rfl | rfl | rfl | rfl | rfl | rfl | rfl | rfl <;> (subst hy; simp; omega)
      obtain ⟨y2, y3⟩ := y1
      rw [hy] at q
      obtain ⟨u0, hu0⟩ : ∃ u : Int, (n : Int) - (j : Int) = u := ⟨_, rfl⟩
      rw [hu0] at q
      have u1 : 0 ≤ u0 := by omega
      have u2 : u0 ≤ 8 := by omega
      have j1 : (0 : Int) < (j : Int) := by omega
      have j2 : (j : Int) - 1 = (k : Int) := by omega
      have j3 : (j : Int) < (m : Int) := by omega
      have j4 : (k : Int) < (m : Int) := by omega
      have j5 : (0 : Int) ≤ (k : Int) := by omega
      have u3 : ¬ u0 + 1 = 0 := by omega
      clear hk HI hp
      go_wp2
      go_roundw
      case rel => exact ⟨k, d.set k b, by have := HK.out; omega, by go_num, HZ.out _ rfl⟩
      case measure => have := HK.out; simp [intOf]; omega
end Go.Proofs.Ytgalgnopjcpocaa

/- What the walk of FilterRound leans on. -/
import Derived.Test.YtdpogojhpfejjaaRk
namespace Go.Proofs.Ytdpogojhpfejjaa
open Go.ChangeShapes Go.WideShapes Go.ChangeAt Go.RowKit Go.Fl Ieee

/-- What is left of a whole number over 2^20. -/
def md (z : Int) : Int := z.tmod 1048576
theorem md_sm (z : Int) : -1048576 < md z ∧ md z < 1048576 := ⟨Int.lt_tmod_of_pos z (by omega), Int.tmod_lt_of_pos z (by omega)⟩
theorem md_wh {z : Int} {x : Nat} (h : floatOfInt .f64 (z.tmod 1048576) = x) : WH (ab x) (md z) := by
  have := md_sm z
  rw [← h]
  exact WH.int (z := md z) (by unfold P53; omega) (by unfold P53; omega)
theorem abs_mul (a b : Int) (ha : -1048576 < a ∧ a < 1048576) (hb : -1048576 < b ∧ b < 1048576) : Sm K40 (a * b) := by
  have h1 : (a * b).natAbs = a.natAbs * b.natAbs := Int.natAbs_mul a b
  have h2 : a.natAbs * b.natAbs ≤ 1048576 * 1048576 := Nat.mul_le_mul (by omega) (by omega)
  unfold Sm K40
  omega
theorem fnt_fine {o : Option Nat} {x : Nat} {z : Int} (h : WH o z) (e : o = ab x) : Fine x := by
  obtain ⟨y, e1, f, _⟩ := h
  rw [e] at e1
  obtain rfl := of_ab e1
  exact fin_parts f
/-- The samples' row. -/
def XR (w : World) (p : Option Addr) (n cap : Nat) (xf : Nat → Nat × Nat) (top : Nat) : Prop := (n = 0 ∧ p = none ∧ cap = 0) ∨ (0 < n ∧ ∃ g, p = some ⟨g, 0, none⟩ ∧ RD w g 0 n xf ∧ g < top)
theorem row_split {w : World} {v : Value} {b n : Nat} {xf : Nat → Nat × Nat} (h : w.ownsRow b 28 1 v n ((cut xf 0 n).map ce)) (hz : n = 0 → v = .slice none 0 0) : ∃ p cap, v = .slice p n cap ∧ XR w p n cap xf w.heap.size := by
  rcases Nat.eq_zero_or_pos n with rfl | hp
  · exact ⟨none, 0, hz rfl, Or.inl ⟨rfl, rfl, rfl⟩⟩
  · have hC : CRow b w v (cut xf 0 n) := by
      show w.ownsRow _ _ _ _ _ _
      rw [cut_len]; exact h
    obtain ⟨q, cap, e, hq⟩ := own_form h
    obtain ⟨g, rfl⟩ := hq hp
    subst e
    refine ⟨_, cap, rfl, Or.inr ⟨hp, g, rfl, fun j hj => ?_, (World.ownsRow.lt h _ rfl).2⟩⟩
    have := hC.cell (i := j) (by rw [cut_len]; exact hj)
    rw [cut_at xf hj] at this
    rw [Nat.zero_add]; exact this
theorem XR.but {w w' : World} {p : Option Addr} {n cap top b : Nat} {xf : Nat → Nat × Nat} (h : XR w p n cap xf top) (hb : But b w w') (ht : top ≤ b) : XR w' p n cap xf top := by
  rcases h with h | ⟨h1, g, e, h2, h3⟩
  · exact Or.inl h
  · exact Or.inr ⟨h1, g, e, hb.rd (by omega) h2, h3⟩
theorem XR.up {w w' : World} {p : Option Addr} {n cap top : Nat} {xf : Nat → Nat × Nat} (h : XR w p n cap xf top) (hu : Up w w') : XR w' p n cap xf top := h.but (b := top) (But.of_up hu) (Nat.le_refl _)
theorem LN.but {b0 q : Nat} {w w' : World} {b gt ct gp R : Nat} {tp : Nat → Nat × Nat} (h : LN b0 w b gt ct gp R tp) (hb : But q w w') (hq : q < b0) : LN b0 w' b gt ct gp R tp := by
  obtain ⟨l1, l2, l3⟩ := h.lo
  refine ⟨h.lo, h.n1, h.n2, h.n3, hb.cell (by omega) h.c0, hb.cell (by omega) h.c1, (World.grownBy.frozen_far hb ⟨b, 1, none⟩ (World.block_lt_of_cell? w _ h.c1) (by simp; omega)).trans h.fz, hb.rd (by omega) h.tap, ?_, h.cap⟩
  obtain ⟨h1, h2⟩ := h.room
  refine ⟨h1, ?_⟩
  rcases h2 with h2 | ⟨g, cap, cur, e, k2, k3, k4⟩
  · exact Or.inl h2
  · simp only [Value.slice.injEq, Option.some.injEq, Addr.mk.injEq] at e
    refine Or.inr ⟨g, cap, cur, by simp only [Value.slice.injEq, Option.some.injEq, Addr.mk.injEq]; exact e, k2, ?_, k4⟩
    have lt : gp < w.heap.size := (World.ownsRow.lt h.room _ rfl).2
    rw [hb.block g (by omega) (by simp; omega)]; exact k3
/-- The ring's numbers. -/
structure BB (x0 x1 x2 B0 B1 B2 : Nat) (z0 z1 z2 : Int) : Prop where
  w0 : WH (ab x0) (md z0)
  w1 : WH (ab x1) (md z1)
  w2 : WH (ab x2) (md z2)
  q0 : bin .quo (ab x0) (ab 4607182418800017408) = some B0
  q1 : bin .quo (ab x1) (ab 4607182418800017408) = some B1
  q2 : bin .quo (ab x2) (ab 4607182418800017408) = some B2
  h0 : WH (ab B0) (md z0)
  h1 : WH (ab B1) (md z1)
  h2 : WH (ab B2) (md z2)
theorem BB.make {x0 x1 x2 : Nat} {z0 z1 z2 : Int} (w0 : WH (ab x0) (md z0)) (w1 : WH (ab x1) (md z1)) (w2 : WH (ab x2) (md z2)) : ∃ B0 B1 B2, BB x0 x1 x2 B0 B1 B2 z0 z1 z2 := by
  have m0 := md_sm z0
  have m1 := md_sm z1
  have m2 := md_sm z2
  obtain ⟨B0, q0, e0, h0⟩ := w0.div1 (by unfold P53; omega) (by unfold P53; omega)
  obtain ⟨B1, q1, e1, h1⟩ := w1.div1 (by unfold P53; omega) (by unfold P53; omega)
  obtain ⟨B2, q2, e2, h2⟩ := w2.div1 (by unfold P53; omega) (by unfold P53; omega)
  exact ⟨B0, B1, B2, w0, w1, w2, q0, q1, q2, by rw [e0]; exact h0, by rw [e1]; exact h1, by rw [e2]; exact h2⟩
theorem w5f {x0 x1 x2 B0 B1 B2 : Nat} {z0 z1 z2 : Int} (h : Hid (BB x0 x1 x2 B0 B1 B2 z0 z1 z2)) (w : World) : Calls Try.prog 5 #[.agg #[.float .f64 x0, .float .f64 x1, .float .f64 x2], .agg #[.float .f64 4607182418800017408, .float .f64 0, .float .f64 0]] w (NR w B0 B1 B2 0 0) :=
  t5 (fnt_fine h.out.w0 rfl) (fnt_fine h.out.w1 rfl) (fnt_fine h.out.w2 rfl) fine_ks.1 fine_ks.2.1 fine_ks.2.1 quo_ks.2.2.2 h.out.q0 h.out.q1 h.out.q2 quo_ks.2.1 quo_ks.2.1 w
def t3L (x0 x1 x2 : Nat) : List (Nat × Nat) := [(x0, 0), (x1, 0), (x2, 0)]
abbrev newT (w : World) (x0 x1 x2 : Nat) : World := w.alloc (.cells #[.complex .f64 x0 0, .complex .f64 x1 0, .complex .f64 x2 0] 28)
theorem w6f (w : World) (x0 x1 x2 : Nat) : Calls Try.prog 6 #[.slice (some ⟨w.heap.size, 0, none⟩) 3 3] (newT w x0 x1 x2) (NL (newT w x0 x1 x2) 2 (fun i => (t3L x0 x1 x2)[i]!)) := t6 w.heap.size 2 3 _ (newT w x0 x1 x2) (rd_two w 28 (t3L x0 x1 x2) rfl rfl) (by omega) (by omega)
/-- The samples are whole. -/
def XW (xf : Nat → Nat × Nat) (X Y : Nat → Int) (n : Nat) : Prop := ∀ i, i < n → WP (ab2 (xf i)) (md (X i)) (md (Y i))
theorem whole_of {x0 x1 x2 B0 B1 B2 : Nat} {z0 z1 z2 : Int} (h : BB x0 x1 x2 B0 B1 B2 z0 z1 z2) {xf : Nat → Nat × Nat} {X Y : Nat → Int} {n : Nat} (hx : XW xf X Y n) : Whole (ab B0) (ab B1) (ab B2) (md z0) (md z1) (md z2) (fun i => ab2 (xf i)) (fun i => md (X i)) (fun i => md (Y i)) n :=
  ⟨h.h0, h.h1, h.h2, hx, fun _ _ => ⟨abs_mul _ _ (md_sm _) (md_sm _), abs_mul _ _ (md_sm _) (md_sm _), abs_mul _ _ (md_sm _) (md_sm _)⟩, fun _ _ => ⟨abs_mul _ _ (md_sm _) (md_sm _), abs_mul _ _ (md_sm _) (md_sm _), abs_mul _ _ (md_sm _) (md_sm _)⟩⟩
theorem w7f {b0 : Nat} {w : World} {br x0 x1 x2 B0 B1 B2 n cap top : Nat} {p : Option Addr} {z0 z1 z2 : Int} {xf : Nat → Nat × Nat} {X Y : Nat → Int} (hb : Hid (BB x0 x1 x2 B0 B1 B2 z0 z1 z2)) (hx : Hid (XW xf X Y n)) (h : Hid (RG b0 w br B0 B1 B2 0 0 0 0 0 0)) (hX : Hid (XR w p n cap xf top)) (ht : top ≤ br) (hn : n ≤ 4096) :
    Calls Try.prog 7 #[.pointer (some ⟨br, 0, none⟩), .slice p n cap] w (RD7 b0 w br n B0 B1 B2 0 0 (fun i => ab2 (xf i))) := by
  rcases hX.out with ⟨rfl, rfl, rfl⟩ | ⟨h1, g, rfl, h2, h3⟩
  · exact t7z h.out _
  · exact t7 h.out g n cap xf h2 (by omega) hn fun i hi => (ring_told (whole_of hb.out hx.out) i hi).1
theorem w8f {b0 : Nat} {w : World} {b gt ct gp n cap top : Nat} {p : Option Addr} {tp xf : Nat → Nat × Nat} (h : Hid (LN b0 w b gt ct gp 2 tp)) (hX : Hid (XR w p n cap xf top)) (hn : n ≤ 4096) :
    Calls Try.prog 8 #[.pointer (some ⟨b, 0, none⟩), .slice p n cap] w (FD w b gp n (lineF (2 + 1) tp xf)) := by
  rcases hX.out with ⟨rfl, rfl, rfl⟩ | ⟨h1, g, rfl, h2, h3⟩
  · exact t8z h.out _ (by omega) (by omega)
  · exact t8 h.out g n cap xf h2 (by omega) hn (by omega) (by omega)
theorem map_at {d : List (Nat × Nat)} {n : Nat} {F : Nat → C2} (h : d.map ab2 = (List.range n).map F) {i : Nat} (hi : i < n) : i < d.length ∧ ab2 d[i]! = F i := by
  have hl : d.length = n := by simpa using congrArg List.length h
  have e := congrArg (fun l => l[i]?) h
  have hd : i < d.length := by omega
  simp only [List.getElem?_map, List.getElem?_eq_getElem hd, List.getElem?_range hi, Option.map_some, Option.some.injEq] at e
  exact ⟨hd, by rw [getElem!_pos d i hd]; exact e⟩
/-- What the two rows hold is the same, as numbers. -/
def Alike (w : World) (g6 g7 n : Nat) : Prop := ∀ i, i < n → ∃ a b c d, w.cell? ⟨g6, i, none⟩ = some (.complex .f64 a b) ∧ w.cell? ⟨g7, i, none⟩ = some (.complex .f64 c d) ∧ eqF (ab a) (ab c) = true ∧ eqF (ab b) (ab d) = true
theorem tail_facts {w w4 w5 w6 w7 w7' : World} {br b gt ct gp n x0 x1 x2 B0 B1 B2 g6 g7 : Nat} {z0 z1 z2 : Int} {xf : Nat → Nat × Nat} {X Y : Nat → Int} {d6 d7 : List (Nat × Nat)} (hb : Hid (BB x0 x1 x2 B0 B1 B2 z0 z1 z2)) (hx : Hid (XW xf X Y n))
    (r4 : Hid (RG w.heap.size w4 br B0 B1 B2 0 0 0 0 0 0)) (u4 : Hid (Up w w4)) (l5 : Hid (LN (newT w4 x0 x1 x2).heap.size w5 b gt ct gp 2 (fun i => (t3L x0 x1 x2)[i]!))) (u5 : Hid (Up (newT w4 x0 x1 x2) w5))
    (c6 : Hid (CRow w5.heap.size w6 (.slice (some ⟨g6, 0, none⟩) n n) d6)) (e6 : Hid (d6.map ab2 = (List.range n).map (ringY (ab B0) (ab B1) (ab B2) (ab 0) (ab 0) (fun i => ab2 (xf i))))) (b6 : Hid (But br w5 w6))
    (c7 : Hid (CRow w6.heap.size w7 (.slice (some ⟨g7, 0, none⟩) n n) d7)) (e7 : Hid (d7.map ab2 = (List.range n).map (lineF (2 + 1) (fun i => (t3L x0 x1 x2)[i]!) xf))) (b7 : Hid (But gp w6 w7' ∧ But b w7' w7)) :
    Hid (Up w w7) ∧ Hid (Alike w7 g6 g7 n) := by
  have lr := r4.out.lo
  obtain ⟨l1, l2, l3⟩ := l5.out.lo
  have lb : b < w5.heap.size := World.block_lt_of_cell? w5 _ l5.out.c0
  have lp : gp < w5.heap.size := (World.ownsRow.lt l5.out.room _ rfl).2
  have s4 := u4.out.size
  have s5 : (newT w4 x0 x1 x2).heap.size = w4.heap.size + 1 := by simp
  have l6 : w5.heap.size ≤ g6 := (World.ownsRow.lt c6.out _ rfl).1
  have v5 : Up w w5 := (u4.out.trans (Up.alloc _ _)).trans u5.out
  have v6 : Up w w6 := b6.out.up v5 lr
  have v7 : Up w w7 := b7.out.2.up (b7.out.1.up v6 (by omega)) (by omega)
  refine ⟨v7, fun i hi => ?_⟩
  have k6 := (c6.out.far b7.out.1 (by omega)).far b7.out.2 (by omega)
  obtain ⟨m6, a6⟩ := map_at e6.out hi
  obtain ⟨m7, a7⟩ := map_at e7.out hi
  have hw := whole_of hb.out hx.out
  have r := (ring_told hw i hi).2
  have l : WP (lineF (2 + 1) (fun i => (t3L x0 x1 x2)[i]!) xf i) (yI (md z0) (md z1) (md z2) (fun i => md (X i)) i) (yI (md z0) (md z1) (md z2) (fun i => md (Y i)) i) :=
    line_told (tp := fun i => (t3L x0 x1 x2)[i]!) ⟨hb.out.w0, WH.zero⟩ ⟨hb.out.w1, WH.zero⟩ ⟨hb.out.w2, WH.zero⟩ hx.out hw.px hw.py i hi
  rw [← a6] at r
  rw [← a7] at l
  obtain ⟨q1, q2⟩ := whole_eq r l
  exact ⟨_, _, _, _, k6.cell m6, c7.out.cell m7, q1, q2⟩
end Go.Proofs.Ytdpogojhpfejjaa

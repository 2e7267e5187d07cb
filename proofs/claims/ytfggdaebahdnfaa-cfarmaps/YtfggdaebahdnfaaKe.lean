/- CfarMaps: the walk. -/
import Derived.Test.YtfggdaebahdnfaaKd
import Derived.Test.YtfggdaebahdnfaaJc
import Derived.Deep.CutRange
namespace Go.Proofs.Ytfggdaebahdnfaa
open Go.ChangeShapes Go.WideShapes Go.ChangeAt Go.RowKit Go.Fl Go.Sort
attribute [local go_sem] run_store_float run_store_func call35 call46 run_neg fold_eq fold_ne fold_lt fold_gt abs_eq

/-- What a round reads: a row's head, the look. -/
def RK (b o k : Nat) (q : Option Addr) (z c lb : Nat) (way g t m : Int) (x : Nat) (W : World) : Prop := W.cell? ⟨b, o + k, none⟩ = some (.slice q z c) ∧ LK lb way g t m x W
/-- Copies of the rows of a map, in a row of their own. -/
structure XR (b : Nat) (w : World) (gx cx i : Nat) (D : Nat → Array Nat) (G C : Nat → Nat) : Prop where
  row : w.ownsRow b 22 1 (.slice (some ⟨gx, 0, none⟩) i cx) i ((List.range i).map fun j => Value.slice (some ⟨G j, 0, none⟩) (D j).size (C j))
  own : ∀ j, j < i → OW b w (G j) (D j).size (C j) (D j)
theorem XR.up {b : Nat} {w w' : World} {gx cx i : Nat} {D : Nat → Array Nat} {G C : Nat → Nat} (h : XR b w gx cx i D G C) (hu : Up w w') : XR b w' gx cx i D G C := ⟨owns_up h.row hu, fun j hj => (h.own j hj).up hu⟩
theorem owns_base {b b' s n : Nat} {w : World} {t : TypeId} {v : Value} {xs : List Value} (h : w.ownsRow b t s v n xs) (hb : b' ≤ b) : w.ownsRow b' t s v n xs := by
  obtain ⟨h1, h2⟩ := h
  refine ⟨h1, ?_⟩
  rcases h2 with h2 | ⟨g, cap, cur, rfl, k2, k3⟩
  · exact Or.inl h2
  · exact Or.inr ⟨g, cap, cur, rfl, Nat.le_trans hb k2, k3⟩
theorem MV.fitD {w : World} {p : Option Addr} {n cap : Nat} {D : Nat → Array Nat} (h : MV w p n cap D) {j : Nat} (hj : j < n) : Fit (D j) := by
  obtain ⟨b, o, _, r⟩ := h.rd (by omega)
  obtain ⟨q, c, _, s⟩ := r j hj
  exact s.fit
theorem XR.at_ {b : Nat} {w : World} {gx cx i : Nat} {D : Nat → Array Nat} {G C : Nat → Nat} (h : XR b w gx cx i D G C) {j : Nat} (hj : j < i) : w.cell? ⟨gx, j, none⟩ = some (.slice (some ⟨G j, 0, none⟩) (D j).size (C j)) := by
  rw [World.ownsRow.cellAt h.row j (by omega)]
  simp [hj]
theorem XR.mv {b : Nat} {w : World} {gx cx n : Nat} {D : Nat → Array Nat} {G C : Nat → Nat} (h : XR b w gx cx n D G C) (_hz : ∀ j, j < n → (D j).size ≤ 70000) (hs : ∀ j, j < n → (D j).size ≤ 1152921504606846976) (hF : ∀ j, j < n → Fit (D j)) : MV w (some ⟨gx, 0, none⟩) n cx D := by
  refine ⟨?_, fun _ => ⟨gx, 0, rfl, fun j hj => ⟨some ⟨G j, 0, none⟩, C j, ?_, ((h.own j hj).sv rfl (hF j hj)).1⟩⟩, hs⟩
  · rcases h.row.2 with ⟨e, h0⟩ | ⟨g, c0, cur, e, _, _, h4, _⟩
    · cases e
    · simp only [Value.slice.injEq] at e; omega
  · rw [Nat.zero_add]; exact h.at_ hj
theorem mpL_len (F : Array Nat → Nat → Bool) (n : Nat) (D : Nat → Array Nat) (g t m : Int) (x : Nat) : (mpL F n D g t m x).length ≤ 4096 := by
  unfold mpL
  split
  · rename_i h
    unfold mpE at h
    split at h
    · rename_i q; exact absurd h q
    · split at h
      · rename_i q; exact absurd h q
      · split at h
        · cases h
        · omega
  · simp
theorem spC_at : ∀ (L : List Spt) {i : Nat} (_ : i < L.length), (L.flatMap spC)[i * 3]? = some (.int .i64 (L[i]!).1) ∧ (L.flatMap spC)[i * 3 + 1]? = some (.int .i64 (L[i]!).2.1) ∧ (L.flatMap spC)[i * 3 + 2]? = some (.float .f64 (L[i]!).2.2)
  | [], i, h => by simp at h
  | a :: l, 0, _ => by simp [spC]
  | a :: l, i + 1, h => by
    have := spC_at l (i := i) (by simpa using h)
    have e : ∀ r, ((a :: l).flatMap spC)[(i + 1) * 3 + r]? = (l.flatMap spC)[i * 3 + r]? := fun r => by
      rw [List.flatMap_cons, List.getElem?_append_right (by simp [spC]; omega)]
      congr 1
      simp [spC]; omega
    have e0 := e 0
    have e1 := e 1
    have e2 := e 2
    simp only [Nat.add_zero] at e0
    rw [e0, e1, e2]
    simpa using this
/-- A row of spots of which the last ones still stand. -/
def AR (b : Nat) (w : World) (v : Value) (N i : Nat) (L : List Spt) : Prop := ∃ xs, w.ownsRow b 44 3 v N xs ∧ ∀ j, i * 3 ≤ j → xs[j]? = (L.flatMap spC)[j]?
theorem AR.of {b : Nat} {w : World} {v : Value} {N : Nat} {L : List Spt} (h : SO b w v L) (hN : L.length = N) : AR b w v N 0 L := ⟨_, hN ▸ h, fun _ _ => rfl⟩
theorem AR.ptr {b : Nat} {w : World} {p : Option Addr} {N c i : Nat} {L : List Spt} (h : AR b w (.slice p N c) N i L) {j : Nat} (hj : j < N) : ∃ g, p = some ⟨g, 0, none⟩ := by
  obtain ⟨xs, h1, _⟩ := h
  obtain ⟨p', c', e, hp⟩ := own_form h1
  obtain ⟨g, hg⟩ := hp (by omega)
  simp only [Value.slice.injEq] at e
  exact ⟨g, e.1.trans hg⟩
theorem AR.cells {b : Nat} {w : World} {g N c i j : Nat} {L : List Spt} (h : AR b w (.slice (some ⟨g, 0, none⟩) N c) N i L) (hj : j < N) (hij : i ≤ j) (hN : L.length = N) : w.cell? ⟨g, j * 3, none⟩ = some (.int .i64 (L[j]!).1) ∧ w.cell? ⟨g, j * 3 + 1, none⟩ = some (.int .i64 (L[j]!).2.1) ∧ w.cell? ⟨g, j * 3 + 2, none⟩ = some (.float .f64 (L[j]!).2.2) := by
  obtain ⟨xs, h1, h2⟩ := h
  obtain ⟨s0, s1, s2⟩ := spC_at L (i := j) (by omega)
  refine ⟨?_, ?_, ?_⟩
  · rw [World.ownsRow.cellAt h1 _ (by omega), h2 _ (by omega), s0]
  · rw [World.ownsRow.cellAt h1 _ (by omega), h2 _ (by omega), s1]
  · rw [World.ownsRow.cellAt h1 _ (by omega), h2 _ (by omega), s2]
theorem AR.frz {b : Nat} {w : World} {g N c i : Nat} {L : List Spt} (h : AR b w (.slice (some ⟨g, 0, none⟩) N c) N i L) (j : Nat) : w.frozen? ⟨g, j, none⟩ = false := by
  obtain ⟨xs, h1, _⟩ := h
  exact World.ownsRow.frozenAt h1 j
theorem AR.up {b : Nat} {w w' : World} {v : Value} {N i : Nat} {L : List Spt} (h : AR b w v N i L) (hu : Up w w') : AR b w' v N i L := by
  obtain ⟨xs, h1, h2⟩ := h
  exact ⟨xs, owns_up h1 hu, h2⟩
theorem AR.put {b : Nat} {w : World} {g N c i : Nat} {L : List Spt} (h : AR b w (.slice (some ⟨g, 0, none⟩) N c) N i L) (u0 u1 u2 : Value) :
    AR b (((w.setCell ⟨g, i * 3, none⟩ u0).setCell ⟨g, i * 3 + 1, none⟩ u1).setCell ⟨g, i * 3 + 2, none⟩ u2) (.slice (some ⟨g, 0, none⟩) N c) N (i + 1) L ∧ But g w (((w.setCell ⟨g, i * 3, none⟩ u0).setCell ⟨g, i * 3 + 1, none⟩ u1).setCell ⟨g, i * 3 + 2, none⟩ u2) ∧ b ≤ g := by
  obtain ⟨xs, h1, h2⟩ := h
  obtain ⟨a1, a2⟩ := World.ownsRow.stored h1 (i * 3) u0
  obtain ⟨b1, b2⟩ := World.ownsRow.stored a1 (i * 3 + 1) u1
  obtain ⟨c1, c2⟩ := World.ownsRow.stored b1 (i * 3 + 2) u2
  refine ⟨⟨_, c1, fun j hj => ?_⟩, But.trans (But.trans a2 b2) c2, (World.ownsRow.lt h1 g rfl).1⟩
  rw [List.getElem?_set_ne (by omega), List.getElem?_set_ne (by omega), List.getElem?_set_ne (by omega)]
  exact h2 j (by omega)
/-- How much a map's rows are, each with one more. -/
def sumP (D : Nat → Array Nat) : Nat → Nat
  | 0 => 0
  | i + 1 => sumP D i + ((D i).size + 1)
theorem sumP_ge (D : Nat → Array Nat) (i : Nat) : i ≤ sumP D i := by
  induction i with
  | zero => exact Nat.le_refl _
  | succ i ih => show _ ≤ sumP D i + _; omega
set_option maxRecDepth 20000 in
theorem info22 : (Try.prog.info? 22).map (fun i => (i.zero, i.size, i.bytes)) = some (some (.slice none 0 0), 1, 24) := by kernel_rfl
theorem eg8 (args : Array Value) (w : World) : (callFunc 8 args).run Try.prog w = .ok (.enter 8 args) w := enters Try.func8 (by kernel_rfl) (by kernel_rfl) _ _
set_option maxRecDepth 20000 in
set_option maxHeartbeats 8000000 in
theorem t4 {w : World} {p : Option Addr} {n cap x : Nat} {D : Nat → Array Nat} {way : Int} (g t m : Int) (h1 : -128 ≤ way) (h2 : way ≤ 127) (h : MV w p n cap D) (hn : n ≤ 1152921504606846976) :
    Calls Try.prog 4 #[.slice p n cap, .agg #[.int .i8 way, .int .i64 g, .int .i64 t, .int .i64 m, .float .f64 x]] w (TU w) := by
  have H : Hid (MV w p n cap D) := h
  clear h
  go_enter Try.func4, Try.ntmps4
  go_wp2
  have K0 : Hid (LK w.heap.size way g t m x (w.alloc (.cells #[.int .i8 way, .int .i64 g, .int .i64 t, .int .i64 m, .float .f64 x] 26))) := LK.new w _ _ _ _ _
  have U0 : Hid (Up w (w.alloc (.cells #[.int .i8 way, .int .i64 g, .int .i64 t, .int .i64 m, .float .f64 x] 26))) := Up.alloc _ _
  generalize (w.alloc (.cells #[.int .i8 way, .int .i64 g, .int .i64 t, .int .i64 m, .float .f64 x] 26)) = w0 at *
  go_loopw [5, 6, 17] (fun vs _ vi wr => ∃ i s : Nat, i ≤ n ∧ vs = .int .i64 s ∧ vi = .int .i64 i ∧ s ≤ 600000 ∧ Hid (s = sumP D i ∧ ∀ j, j < i → (D j).size ≤ 65536) ∧ Hid (Up w0 wr)) (fun _ _ vi _ => n - (intOf vi).toNat)
  case atStart => exact ⟨0, 0, by omega, rfl, rfl, by omega, ⟨rfl, fun j hj => by omega⟩, Up.refl _⟩
  case round =>
    obtain ⟨i, s, hin, rfl, rfl, hs, HS, HU⟩ := hrel
    rename World => W
    by_cases hlt : i < n
    · obtain ⟨b, o, hpe, hr⟩ := H.out.rd (by omega)
      subst hpe
      obtain ⟨q1, c1, k1, k2⟩ := hr i hlt
      obtain ⟨z, hz⟩ : ∃ z, (D i).size = z := ⟨_, rfl⟩
      rw [hz] at k1
      have zs : z ≤ 1152921504606846976 := by rw [← hz]; exact H.out.small i hlt
      have HZ : Hid _ := hz
      have KK : Hid (RK b o i q1 z c1 w.heap.size way g t m x W) := ⟨cell_up k1 (U0.out.trans HU.out), K0.out.up HU.out⟩
      clear hr k2 hz k1
      have hl3 : (i : Int) < (n : Int) := by omega
      have hl4 : (0 : Int) ≤ (i : Int) := by omega
      obtain ⟨bw, hbw⟩ : ∃ bw, workF z t = bw := ⟨_, rfl⟩
      have HBW : Hid _ := hbw
      clear hbw
      go_wp2_with fail
      refine wp_region_ord 6 [(0, none), (1, none), (2, none), (3, some false), (4, none), (5, some false)] (RK b o i q1 z c1 w.heap.size way g t m x) (by kernel_rfl) (by decide) rfl (by kernel_rfl) (fun _ _ d _ _ h => by cases d <;> exact h) (by exact ⟨KK.out.1, KK.out.2⟩) ?_
      refine ⟨_, .slice (some ⟨b, o, none⟩) n cap, some 20, rfl, rfl, Or.inl ⟨rfl, fun w' hS => ?_⟩, ?_⟩
      · go_simp
      refine ⟨_, .int .i64 i, some 21, rfl, rfl, Or.inl ⟨rfl, fun w' hS => ?_⟩, ?_⟩
      · go_simp
      refine ⟨_, .pointer (some ⟨b, o + i, none⟩), some 22, rfl, rfl, Or.inl ⟨rfl, fun w' hS => ?_⟩, ?_⟩
      · go_simp
      refine ⟨_, .slice q1 z c1, some 23, rfl, rfl, Or.inl ⟨rfl, fun w' hS => ?_⟩, ?_⟩
      · obtain ⟨l0, l1⟩ := hS
        go_simp
      refine ⟨_, .int .i64 z, some 24, rfl, rfl, Or.inl ⟨rfl, fun w' hS => ?_⟩, ?_⟩
      · go_simp
      refine ⟨_, .agg #[.int .i8 way, .int .i64 g, .int .i64 t, .int .i64 m, .float .f64 x], some 25, rfl, rfl, Or.inl ⟨rfl, fun w' hS => ?_⟩, ?_⟩
      · obtain ⟨_, l0, l1, l2, l3, l4⟩ := hS
        go_simp
      simp only [OrdW, List.drop_succ_cons, List.drop_zero, Act.put, List.setIfInBounds_toArray, List.set_cons_succ, List.set_cons_zero]
      cases bw
      · by_cases hbig : 524288 < s
        · have d1 : decide ((524288 : Int) < (s : Int)) = true := decide_eq_true (by omega)
          have d2 : (524288 : Int) < (s : Int) := by omega
          go_wp2_with (first
            | (go_at_call 8; (with_reducible refine (t8k (by omega) HBW.out _).mono ?_); rintro e w1 ⟨rfl, HU1⟩)
            | (go_at_call 9; (with_reducible refine (t9 _).mono ?_); rintro e w2 ⟨rfl, HU2⟩))
          go_ret
          exact ⟨rfl, (((U0.out.trans HU.out).trans (Up.drewN _ 1)).trans HU1.out).trans HU2.out⟩
        · have d1 : decide ((524288 : Int) < (s : Int)) = false := decide_eq_false (by omega)
          have d2 : ¬ (524288 : Int) < (s : Int) := by omega
          have hz6 : z ≤ 65536 := work_small HBW.out
          go_wp2_with (go_at_call 8; (with_reducible refine (t8k (by omega) HBW.out _).mono ?_); rintro e w1 ⟨rfl, HU1⟩; (have kz := cell_up KK.out.1 ((Up.drewN _ 1).trans HU1.out)))
          go_roundw
          case rel =>
            refine ⟨i + 1, s + (z + 1), by omega, by go_num, by go_num, by omega, ⟨?_, fun j hj => ?_⟩, (HU.out.trans (Up.drewN _ 1)).trans HU1.out⟩
            · show _ = sumP D i + _
              rw [HZ.out, ← HS.out.1]
            · rcases Nat.lt_succ_iff_lt_or_eq.1 hj with q | rfl
              · exact HS.out.2 j q
              · rw [HZ.out]; exact hz6
          case measure => simp [intOf]; omega
      · go_wp2_with (first
          | (go_at_call 8; (with_reducible refine (t8k (by omega) HBW.out _).mono ?_); rintro e w1 ⟨rfl, HU1⟩)
          | (go_at_call 9; (with_reducible refine (t9 _).mono ?_); rintro e w2 ⟨rfl, HU2⟩))
        go_ret
        exact ⟨rfl, (((U0.out.trans HU.out).trans (Up.drewN _ 1)).trans HU1.out).trans HU2.out⟩
    · have hie : n = i := by omega
      subst hie
      go_upto_region 9 with fail
      have LKW : Hid (LK w.heap.size way g t m x W) := K0.out.up HU.out
      go_cut [53] from 41 (fun s53 wx => ∃ (b : Bool) (k : Nat), s53 = .bool b ∧ wx = W.drewN k)
      case first =>
        obtain ⟨l0, l1, l2, l3, l4⟩ := LKW.out
        rcases Nat.eq_zero_or_pos s with h0 | h0
        · subst h0
          go_wp2_with fail
          go_quiet (fail)
          go_wp2_with fail
          go_meet
          case rel => exact ⟨false, _, rfl, rfl⟩
        have d0 : decide ((0 : Int) < (s : Int)) = true := decide_eq_true (by omega)
        obtain ⟨q, hq⟩ : ∃ q, 8388608 / s = q := ⟨_, rfl⟩
        have hq2 : (8388608 : Int).tdiv (s : Int) = (q : Int) := by rw [← hq]; rfl
        have hn0 : ¬ (s : Int) = 0 := by omega
        have qb : q ≤ 8388608 := by rw [← hq]; exact Nat.div_le_self _ _
        clear hq
        by_cases h3 : (q : Int) < t
        · have d2 : decide ((q : Int) < t) = true := decide_eq_true h3
          by_cases h4 : s ≤ 262144
          · have d3 : decide ((s : Int) ≤ 262144) = true := decide_eq_true (by omega)
            go_wp2_with fail
            go_quiet (fail)
            go_wp2_with fail
            go_meet
            case rel => exact ⟨true, _, rfl, rfl⟩
          · have d3 : decide ((s : Int) ≤ 262144) = false := decide_eq_false (by omega)
            go_wp2_with fail
            go_quiet (fail)
            go_wp2_with fail
            go_meet
            case rel => exact ⟨false, _, rfl, rfl⟩
        · have d2 : decide ((q : Int) < t) = false := decide_eq_false h3
          go_wp2_with fail
          go_quiet (fail)
          go_wp2_with fail
          go_meet
          case rel => exact ⟨false, _, rfl, rfl⟩
      case rest =>
        obtain ⟨bq, kq, rfl, hwc⟩ := hcut
        have UC : Hid (Up w wc) := by rw [hwc]; exact (U0.out.trans HU.out).trans (Up.drewN _ _)
        have KC : Hid (LK w.heap.size way g t m x wc) := by rw [hwc]; exact LKW.out.up (Up.drewN _ _)
        clear hwc LKW HU K0 U0
        cases bq
        rotate_left
        · go_wp2_with (go_at_call 9; (with_reducible refine (t9 _).mono ?_); rintro e w2 ⟨rfl, HU2⟩)
          go_ret
          exact ⟨rfl, UC.out.trans HU2.out⟩
        have hn6 : n ≤ 600000 := by have := sumP_ge D n; have := HS.out.1; omega
        have HSZ : Hid (∀ j, j < n → (D j).size ≤ 65536) := HS.out.2
        clear HS
        obtain ⟨j0, hj0, hz0, hz1, hz2⟩ := info_parts info22
        go_wp2_with (refine wpList_make_own _ rfl _ _ 39 rfl wc.heap.size 22 j0 (.slice none 0 0) 1 Try.underlying39 hj0 hz0 hz1 .i64 .i64 _ (n + 1) rfl rfl (by omega) (by rw [hz2]; omega) (by unfold maxLen; omega) (Nat.le_refl _) ?_; intro w3 hown hgr
                     have HO : Hid (w3.ownsRow wc.heap.size 22 1 (.slice (some ⟨wc.heap.size, 0, none⟩) 0 (n + 1)) 0 []) := hown
                     have HU3 : Hid (Up wc w3) := grown_up (Up.refl _) hgr (fun j hj => by cases hj)
                     clear hown hgr)
        go_loopw [7, 8, 61] (fun v _ vi wr => ∃ (i gx cx : Nat) (G C : Nat → Nat), v = .slice (some ⟨gx, 0, none⟩) i cx ∧ vi = .int .i64 i ∧ i ≤ n ∧ Hid (XR wc.heap.size wr gx cx i D G C) ∧ Hid (Up wc wr)) (fun _ _ vi _ => n - (intOf vi).toNat)
        case atStart => exact ⟨0, wc.heap.size, n + 1, fun _ => 0, fun _ => 0, rfl, rfl, by omega, ⟨HO.out, fun j hj => by omega⟩, HU3⟩
        case round =>
          clear HO HU3
          obtain ⟨i, gx, cx, G, C, rfl, rfl, hin2, HX, HU3⟩ := hrel
          rename World => W1
          by_cases hlt : i < n
          · obtain ⟨b, o, hpe, hr⟩ := H.out.rd (by omega)
            subst hpe
            obtain ⟨q1, c1, k1, k2⟩ := hr i hlt
            obtain ⟨d, hd⟩ : ∃ d, D i = d := ⟨_, rfl⟩
            have k1' := cell_up k1 (UC.out.trans HU3.out)
            have hz : (D i).size ≤ 65536 := HSZ.out i hlt
            rw [hd] at k1' hz k2
            obtain ⟨z, hzz⟩ : ∃ z, d.size = z := ⟨_, rfl⟩
            rw [hzz] at k1' hz k2
            have SR : Hid (SV W1 q1 z c1 d) := k2.up (UC.out.trans HU3.out)
            have HD : Hid (D i = d ∧ d.size = z) := ⟨hd, hzz⟩
            clear hd hzz k1 k2 hr
            have hl3 : (i : Int) < (n : Int) := by omega
            go_wp2_with (first
              | (go_at_call 10; (with_reducible refine (t10 SR.out (by omega)).mono ?_); rintro e w4 ⟨gi, ci, rfl, OX, HU4⟩; (have sz : wc.heap.size ≤ w4.heap.size := RowKit.Below.size (HU3.out.trans HU4.out)); (have hown : w4.ownsRow wc.heap.size 22 1 (.slice (some ⟨gx, 0, none⟩) i cx) i ((List.range i).map fun j => Value.slice (some ⟨G j, 0, none⟩) (D j).size (C j)) := owns_up HX.out.row HU4.out); (obtain ⟨xs, hxs⟩ : ∃ xs, ((List.range i).map fun j => Value.slice (some ⟨G j, 0, none⟩) (D j).size (C j)) = xs := ⟨_, rfl⟩); rw [hxs] at hown; (have HXS : Hid _ := hxs); clear hxs)
              | (at_builtin; refine wpList_append_own _ rfl _ _ 39 rfl wc.heap.size 22 j0 (.slice none 0 0) 1 24 Try.underlying39 hj0 hz0 hz1 hz2 rfl (by decide) _ _ _ rfl (hown.alloc _) ⟨w4.heap.size, 0, none⟩ 1 1 [.slice (some ⟨gi, 0, none⟩) z ci] rfl rfl (one_new _ _ _) (one_cellV rfl) (by unfold maxLen; omega) (by omega) (by simp; omega) ?_))
            intro v' w6 hown' hgrow _
            have sz2 : wc.heap.size ≤ W1.heap.size := RowKit.Below.size HU3.out
            have U6 : Hid (Up wc w6) := grown_up ((HU3.out.trans HU4.out).trans (Up.alloc _ _)) hgrow (fun j hj => (hown.lt j hj).1)
            obtain ⟨p', c', hv, hp'⟩ := own_form hown'
            obtain ⟨gx', hgx'⟩ := hp' (by omega)
            subst hgx'
            subst hv
            have HX3 : Hid (XR wc.heap.size w6 gx' c' (i + 1) D (fun j => if j = i then gi else G j) (fun j => if j = i then ci else C j)) := by
              refine ⟨?_, fun j hj => ?_⟩
              · rw [List.range_succ, List.map_append]
                have e1 : ((List.range i).map fun j => Value.slice (some ⟨if j = i then gi else G j, 0, none⟩) (D j).size (if j = i then ci else C j)) = xs := by
                  rw [← HXS.out]
                  refine List.map_congr_left fun j hj => ?_
                  have : j ≠ i := by have := List.mem_range.1 hj; omega
                  rw [if_neg this, if_neg this]
                rw [e1]
                simp only [List.map_cons, List.map_nil, if_true, HD.out.1, HD.out.2]
                exact hown'
              · by_cases e : j = i
                · subst e
                  rw [if_pos rfl, if_pos rfl, HD.out.1, HD.out.2]
                  exact owns_base (owns_grown (OX.out.up (Up.alloc _ _)) hgrow (fun g hg => kinds_apart hown OX.out (by decide) hg)) sz2
                · rw [if_neg e, if_neg e]
                  have := (HX.out.own j (by omega)).up HU4.out
                  exact owns_grown (this.up (Up.alloc _ _)) hgrow (fun g hg => kinds_apart hown this (by decide) hg)
            clear hown' hgrow hown hp' HX
            go_wp2
            go_roundw
            case rel => exact ⟨i + 1, gx', c', _, _, rfl, by go_num, by omega, HX3, U6⟩
            case measure => simp [intOf]; omega
          · have hie2 : n = i := by omega
            subst hie2
            obtain ⟨N, hN⟩ : ∃ N, (mpL (echoD way g.toNat t.toNat m.toNat (ab x)) n D g t m x).length = N := ⟨_, rfl⟩
            obtain ⟨E, hE⟩ : ∃ E, mpE (echoD way g.toNat t.toNat m.toNat (ab x)) n D g t m x = E := ⟨_, rfl⟩
            obtain ⟨L, hL⟩ : ∃ L, mpL (echoD way g.toNat t.toNat m.toNat (ab x)) n D g t m x = L := ⟨_, rfl⟩
            have C17 : Hid (∀ W q c, MV W q n c D → Calls Try.prog 17 #[.slice q n c, .int .i8 way, .int .i64 g, .int .i64 t, .int .i64 m, .float .f64 x] W fun e w' => ∃ p c, e = .returned (.tuple #[.slice p N c, .int .i64 E]) ∧ Hid (SO W.heap.size w' (.slice p N c) L) ∧ Hid (Up W w')) := fun W q c hv => by
              have := t17 g t m (x := x) h1 h2 hv
              unfold MR at this
              rw [hN, hE, hL] at this; exact this
            have C18 : Hid (∀ W q c, MV W q n c D → Calls Try.prog 18 #[.slice q n c, .int .i8 way, .int .i64 g, .int .i64 t, .int .i64 m, .float .f64 x] W fun e w' => ∃ p c, e = .returned (.tuple #[.slice p N c, .int .i64 E]) ∧ Hid (SO W.heap.size w' (.slice p N c) L) ∧ Hid (Up W w')) := fun W q c hv => by
              have := t18 g t m (x := x) h1 h2 hv
              unfold MR at this
              rw [hN, hE, hL] at this; exact this
            have HN : Hid (L.length = N) := by show _ = _; rw [← hL]; exact hN
            have bN : N ≤ 4096 := by rw [← hN]; exact mpL_len _ _ _ _ _ _ _
            clear hN hE hL
            obtain ⟨l0, l1, l2, l3, l4⟩ := KC.out.up HU3.out
            have MX : Hid (MV W1 (some ⟨gx, 0, none⟩) n cx D) := HX.out.mv (fun j hj => by have := HSZ.out j hj; omega) H.out.small (fun j hj => H.out.fitD hj)
            go_wp2_with (first
              | (go_at_call 17; (with_reducible refine (C17.out _ _ _ MX.out).mono ?_); rintro e w7 ⟨pa, ca, rfl, SA, HU7⟩; clear l0 l1 l2 l3 l4; (obtain ⟨l0, l1, l2, l3, l4⟩ := KC.out.up (HU3.out.trans HU7.out)))
              | (go_at_call 18; (with_reducible refine (C18.out _ _ _ (H.out.up ((UC.out.trans HU3.out).trans HU7.out))).mono ?_); rintro e w8 ⟨pb, cb, rfl, SB, HU8⟩; clear l0 l1 l2 l3 l4))
            have SA8 : Hid (SO W1.heap.size w8 (.slice pa N ca) L) := SA.out.up HU8.out
            have U8 : Hid (Up W1 w8) := HU7.out.trans HU8.out
            have GA : Hid (∀ ga, pa = some ⟨ga, 0, none⟩ → ga < w7.heap.size) := fun ga e => by
              have h := SA.out
              rw [e] at h
              exact (World.ownsRow.lt h ga rfl).2
            clear SA C17 C18 MX KC
            go_loopw [13, 115] (fun _ vi wr => ∃ i : Nat, i ≤ N ∧ vi = .int .i64 i ∧ Hid (AR W1.heap.size wr (.slice pa N ca) N i L) ∧ Hid (SO w7.heap.size wr (.slice pb N cb) L) ∧ Hid (Up W1 wr)) (fun _ vi _ => N - (intOf vi).toNat)
            case atStart => exact ⟨0, by omega, rfl, AR.of SA8.out HN.out, SB, U8⟩
            case round =>
              clear SA8 SB U8
              obtain ⟨i, hiN, rfl, HA, SB, UA⟩ := hrel
              rename World => W2
              by_cases hlt : i < N
              · obtain ⟨ga, hpa⟩ := HA.out.ptr hlt
                subst hpa
                obtain ⟨gb, hpb⟩ := (AR.of SB.out HN.out).ptr hlt
                subst hpb
                obtain ⟨a0, a1, a2⟩ := HA.out.cells hlt (Nat.le_refl _) HN.out
                obtain ⟨b0, b1, b2⟩ := (AR.of SB.out HN.out).cells hlt (Nat.zero_le _) HN.out
                have f0 := HA.out.frz (i * 3)
                have f1 := HA.out.frz (i * 3 + 1)
                have f2 := HA.out.frz (i * 3 + 2)
                generalize L[i]! = sp at a0 a1 a2 b0 b1 b2
                obtain ⟨bi, gi, y⟩ := sp
                simp only at a0 a1 a2 b0 b1 b2
                have hz3 : (i : Int) < (N : Int) := by omega
                have hz4 : (0 : Int) ≤ (i : Int) := by omega
                go_wp2_with fail
                go_quiet (first | (go_at_call 13; (with_reducible refine Calls.quiet_of_same (t13k rfl _))))
                have HA3 : Hid (AR W1.heap.size (W2.drewN nq) (.slice (some ⟨ga, 0, none⟩) N ca) N i L) := HA.out.up (Up.drewN _ _)
                have SB3 : Hid (SO w7.heap.size (W2.drewN nq) (.slice (some ⟨gb, 0, none⟩) N cb) L) := SB.out.up (Up.drewN _ _)
                have UA3 : Hid (Up W1 (W2.drewN nq)) := UA.out.trans (Up.drewN _ _)
                have a0' : (W2.drewN nq).cell? ⟨ga, i * 3, none⟩ = some (.int .i64 bi) := a0
                have a1' : (W2.drewN nq).cell? ⟨ga, i * 3 + 1, none⟩ = some (.int .i64 gi) := a1
                have a2' : (W2.drewN nq).cell? ⟨ga, i * 3 + 2, none⟩ = some (.float .f64 y) := a2
                have f0' : (W2.drewN nq).frozen? ⟨ga, i * 3, none⟩ = false := f0
                have f1' : (W2.drewN nq).frozen? ⟨ga, i * 3 + 1, none⟩ = false := f1
                have f2' : (W2.drewN nq).frozen? ⟨ga, i * 3 + 2, none⟩ = false := f2
                clear a0 a1 a2 b0 b1 b2 f0 f1 f2 HA SB UA
                generalize W2.drewN nq = W3 at *
                have HGA : Hid (ga < w7.heap.size) := by
                  have := GA.out ga rfl
                  exact this
                have HP : Hid (∀ u0 u1 u2, AR W1.heap.size (((W3.setCell ⟨ga, i * 3, none⟩ u0).setCell ⟨ga, i * 3 + 1, none⟩ u1).setCell ⟨ga, i * 3 + 2, none⟩ u2) (.slice (some ⟨ga, 0, none⟩) N ca) N (i + 1) L ∧ SO w7.heap.size (((W3.setCell ⟨ga, i * 3, none⟩ u0).setCell ⟨ga, i * 3 + 1, none⟩ u1).setCell ⟨ga, i * 3 + 2, none⟩ u2) (.slice (some ⟨gb, 0, none⟩) N cb) L ∧ Up W1 (((W3.setCell ⟨ga, i * 3, none⟩ u0).setCell ⟨ga, i * 3 + 1, none⟩ u1).setCell ⟨ga, i * 3 + 2, none⟩ u2)) := fun u0 u1 u2 => by
                  obtain ⟨p1, p2, p3⟩ := HA3.out.put u0 u1 u2
                  refine ⟨p1, owns_grown SB3.out p2 (fun g hg e => ?_), p2.up UA3.out p3⟩
                  cases hg
                  have q1 := (World.ownsRow.lt SB3.out gb rfl).1
                  have q2 := HGA.out
                  simp only [Value.ownBlock, Option.some.injEq] at e
                  omega
                clear HA3 SB3 UA3
                go_wp2
                go_roundw
                case rel => exact ⟨i + 1, by omega, by go_num, (HP.out _ _ _).1, (HP.out _ _ _).2.1, (HP.out _ _ _).2.2⟩
                case measure => simp [intOf]; omega
              · have hie4 : N = i := by omega
                subst hie4
                have HX5 : Hid (XR wc.heap.size W2 gx cx n D G C) := HX.out.up UA.out
                have UW : Hid (Up w W2) := (UC.out.trans HU3.out).trans UA.out
                clear HA SB UA HX HU3
                go_wp2
                go_loopw [14, 163] (fun _ vi wr => ∃ i k : Nat, i ≤ n ∧ vi = .int .i64 i ∧ wr = W2.drewN k) (fun _ vi _ => n - (intOf vi).toNat)
                case atStart => exact ⟨0, 0, by omega, rfl, rfl⟩
                case round =>
                  obtain ⟨i, kd, hin6, rfl, hw⟩ := hrel
                  rename World => W4
                  have HU4 : Hid (Up W2 W4) := by rw [hw]; exact Up.drewN _ _
                  have HW : Hid (W4 = W2.drewN kd) := hw
                  clear hw
                  by_cases hlt : i < n
                  · obtain ⟨b, o, hpe, hr⟩ := H.out.rd (by omega)
                    subst hpe
                    obtain ⟨q1, c1, k1, k2⟩ := hr i hlt
                    have k1' := cell_up k1 (UW.out.trans HU4.out)
                    have kx := (HX5.out.up HU4.out).at_ hlt
                    have hz : (D i).size ≤ 65536 := HSZ.out i hlt
                    have SR : Hid (SV W4 q1 (D i).size c1 (D i)) := k2.up (UW.out.trans HU4.out)
                    have OX : Hid (OW wc.heap.size W4 (G i) (D i).size (C i) (D i)) := (HX5.out.own i hlt).up HU4.out
                    generalize G i = gi at kx OX
                    generalize C i = ci at kx OX
                    generalize D i = d at k1' kx hz SR OX
                    have C14 : Hid (∀ k, Calls Try.prog 14 #[.slice (some ⟨gi, 0, none⟩) d.size ci, .slice q1 d.size c1] (W4.drewN k) fun e w' => e = .returned (.bool true) ∧ ∃ m, w' = (W4.drewN k).drewN m) := fun k => t14q (SR.out.up (Up.drewN _ _)) (OX.out.up (Up.drewN _ _)) (by omega)
                    generalize d.size = z at k1' kx C14
                    have hl3 : (i : Int) < (n : Int) := by omega
                    have hl4 : (0 : Int) ≤ (i : Int) := by omega
                    clear k1 k2 hr SR OX
                    go_wp2_with fail
                    go_quiet (first | (go_at_call 14; (with_reducible refine Calls.quiet_of (C14.out _))))
                    go_wp2
                    go_roundw
                    case rel => exact ⟨i + 1, _, by omega, by go_num, by rw [HW.out, World.drewN_drewN]⟩
                    case measure => simp [intOf]; omega
                  · have hie5 : n = i := by omega
                    subst hie5
                    go_wp2_with (go_at_call 9; (with_reducible refine (t9 _).mono ?_); rintro e w9 ⟨rfl, HU9⟩)
                    go_ret
                    exact ⟨rfl, (UW.out.trans HU4.out).trans HU9.out⟩
end Go.Proofs.Ytfggdaebahdnfaa

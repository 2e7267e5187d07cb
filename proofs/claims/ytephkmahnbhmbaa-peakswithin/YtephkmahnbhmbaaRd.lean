/- Spots that hang together: the walk. -/
import Derived.Test.YtephkmahnbhmbaaRc
namespace Go.Proofs.Ytephkmahnbhmbaa
open Go.ChangeShapes Go.WideShapes Go.ChangeAt Go.RowKit Go.Fl Go.Sort Go.Shelf Go.Lib Go.Maps
attribute [local go_sem] run_store_float call52 run_neg fold_eq fold_ne fold_lt fold_gt abs_eq eqg57

theorem sixg_up {w w' : World} {q b r k : Nat} {a e f x y z : Value} (h : w.cell? ⟨q, 0, none⟩ = some a ∧ w.cell? ⟨q, 1, none⟩ = some e ∧ w.cell? ⟨b, 0, none⟩ = some f ∧ w.cell? ⟨r, k, none⟩ = some x ∧ w.cell? ⟨r, k + 1, none⟩ = some y ∧ w.cell? ⟨r, k + 2, none⟩ = some z) (hu : Up w w') :
    w'.cell? ⟨q, 0, none⟩ = some a ∧ w'.cell? ⟨q, 1, none⟩ = some e ∧ w'.cell? ⟨b, 0, none⟩ = some f ∧ w'.cell? ⟨r, k, none⟩ = some x ∧ w'.cell? ⟨r, k + 1, none⟩ = some y ∧ w'.cell? ⟨r, k + 2, none⟩ = some z :=
  ⟨cell_up h.1 hu, cell_up h.2.1 hu, cell_up h.2.2.1 hu, cell_up h.2.2.2.1 hu, cell_up h.2.2.2.2.1 hu, cell_up h.2.2.2.2.2 hu⟩
/-- What the call leaves. -/
def HR (w : World) (mb N : Nat) (L R : List Spt) (e : Ending) (w' : World) : Prop := ∃ p c G, e = .returned (.slice p L.length c) ∧ Hid (SO w.heap.size w' (.slice p L.length c) G ∧ G.Perm L ∧ G.Pairwise (fun s t => ¬ ordC t.1 t.2.1 s.1 s.2.1 < 0)) ∧ Hid (MM w' mb N (fR R)) ∧ Hid (Kp (fun k => k ≠ mb ∧ k < w.heap.size) w w')
theorem take_len (st : List Spt × List Spt) (c : Int × Int) : st.1.length ≤ (takeL st c).1.length := by
  cases hf : fR st.2 c with
  | none => rw [takeL_none hf]; exact Nat.le_refl _
  | some t => rw [takeL_some hf]; simp
theorem fold_len : ∀ (l : List (Int × Int)) (st : List Spt × List Spt), st.1.length ≤ (l.foldl takeL st).1.length
  | [], _ => Nat.le_refl _
  | c :: l, st => Nat.le_trans (take_len st c) (fold_len l (takeL st c))
theorem eg35 (args : Array Value) (w : World) : (callFunc 35 args).run Try.prog w = .ok (.enter 35 args) w := enters Try.func35 (by kernel_rfl) (by kernel_rfl) _ _
/-- How far the walk has come. -/
structure BL (base lB gB mb N n Q : Nat) (bins : Int) (F0 : Nat → Prop) (w2 : World) (fin : List Spt × List Spt) (v : Value) (M k : Nat) (st : List Spt × List Spt) (wr : World) : Prop where
  hs : ∃ F : Nat → Prop, HS base lB gB mb N n v M st F wr ∧ ∀ k, F0 k → F k
  kp : Kp F0 w2 wr
  run : bfsN bins (n + 1 - k) k st = fin
  ok : (∀ s ∈ st.1, Ok bins s) ∧ ∀ s ∈ st.2, Ok bins s
  grid : cell2 wr Q (.int .i64 bins) (.int .i64 9223372036854775807)
  one : 1 ≤ M
theorem BL.round {base lB gB mb N n Q : Nat} {bins : Int} {F0 : Nat → Prop} {w2 : World} {fin : List Spt × List Spt} {v : Value} {M k : Nat} {st : List Spt × List Spt} {wr W : World} {s1 s2 : Int} {s3 : Nat} (h : BL base lB gB mb N n Q bins F0 w2 fin v M k st wr) (hu : Up wr W) (hn : n * 24 ≤ 140737488355328) (b2 : bins ≤ 9223372036854775807) (hQ : F0 Q) (hk : k < M) (hs : st.1[k]! = (s1, s2, s3)) :
    Calls Try.prog 53 #[.agg #[.int .i64 bins, .int .i64 9223372036854775807], .agg #[.int .i64 s1, .int .i64 s2], .func (.func 61) #[] #[.pointer (some ⟨lB, 0, none⟩), .pointer (some ⟨gB, 0, none⟩)]] W fun e w' => e = .returned (.tuple #[]) ∧ ∃ v' M', Hid (BL base lB gB mb N n Q bins F0 w2 fin v' M' (k + 1) (visit bins st k) w' ∧ M ≤ M' ∧ M' ≤ n) := by
  obtain ⟨F, h1, h2⟩ := h.hs
  have hM := h1.most
  have hl := h1.len
  have hmem : (s1, s2, s3) ∈ st.1 := by
    rw [← hs, getElem!_pos st.1 k (by omega)]; exact List.getElem_mem _
  obtain ⟨o1, o2, o3, o4⟩ := h.ok.1 _ hmem
  simp only at o1 o2 o3 o4
  refine (t53 (visits61 (st := st) (base := base) (lB := lB) (gB := gB) (mb := mb) (N := N) (n := n) hn o1 o2 b2 o4) eg61 (F0 := More F wr W) ⟨v, M, h1.up hu⟩ o1 o2 b2 o3 o4 (by omega)).mono ?_
  rintro e w' ⟨rfl, F', hF⟩
  obtain ⟨f1, ⟨v', M', f2⟩, f3⟩ := hF.out
  have hk' : Kp F0 wr w' := (Kp.of_up hu).trans (f3.mono (fun j hj => Or.inl (h2 j hj)))
  refine ⟨rfl, v', M', ⟨⟨F', ?_, fun j hj => f1 j (Or.inl (h2 j hj))⟩, h.kp.trans hk', ?_, ?_, ⟨hk'.cell hQ h.grid.1, hk'.cell hQ h.grid.2⟩, ?_⟩, ?_, ?_⟩
  · unfold visit; rw [hs]; exact f2
  · have := h.run
    rw [show n + 1 - k = (n - k) + 1 by omega, bfsN, if_pos (by omega)] at this
    rw [show n + 1 - (k + 1) = n - k by omega]; exact this
  · unfold visit; exact fold_ok _ _ h.ok
  · have e1 := f2.len
    have e2 := fold_len (nbL bins 9223372036854775807 s1 s2) st
    have e3 := h.one
    omega
  · have e1 := f2.len
    have e2 := fold_len (nbL bins 9223372036854775807 s1 s2) st
    omega
  · have := f2.most; omega
set_option maxRecDepth 20000 in
set_option maxHeartbeats 4000000 in
theorem t36 {w : World} {mb N : Nat} {R : List Spt} {bins s1 s2 : Int} {s3 : Nat} (hn : R.length * 24 ≤ 140737488355328) (b2 : bins ≤ 9223372036854775807) (hO : ∀ s ∈ R, Ok bins s) (hm : MM w mb N (fR R)) (hs : fR R (s1, s2) = some (s1, s2, s3)) :
    Calls Try.prog 36 #[.agg #[.int .i64 s1, .int .i64 s2, .float .f64 s3], .map (some mb), .int .i64 bins] w (HR w mb N (hangF bins R (s1, s2, s3)).1 (hangF bins R (s1, s2, s3)).2) := by
  have HM : Hid (MM w mb N (fR R)) := hm
  have HO : Hid (∀ s ∈ R, Ok bins s) := hO
  have HS1 : Hid (fR R (s1, s2) = some (s1, s2, s3)) := hs
  have hok := hO _ (fR_some hs).1
  obtain ⟨k1, k2, k3, k4⟩ := three_boxes w #[.int .i64 s1, .int .i64 s2, .float .f64 s3] #[.map (some mb)] #[.slice none 0 0] 29 61 25
  have HU0 : Hid (Up w (((w.alloc (.cells #[.int .i64 s1, .int .i64 s2, .float .f64 s3] 29)).alloc (.cells #[.map (some mb)] 61)).alloc (.cells #[.slice none 0 0] 25))) := ((Up.alloc _ _).trans (Up.alloc _ _)).trans (Up.alloc _ _)
  have a0 := k1 0
  have a1 := k1 1
  have a2 := k1 2
  have a3 := k2 0
  have a4 := k3 0
  simp only [List.getElem?_toArray, List.getElem?_cons_zero, List.getElem?_cons_succ] at a0 a1 a2 a3 a4
  have HSZ : Hid _ := k4
  have hbox : (((w.alloc (.cells #[.int .i64 s1, .int .i64 s2, .float .f64 s3] 29)).alloc (.cells #[.map (some mb)] 61)).alloc (.cells #[.slice none 0 0] 25)).heap[w.heap.size + 1 + 1]? = some (.cells #[.slice none 0 0] 25 (0, 0)) := by
    have := heap_alloc_last ((w.alloc (.cells #[.int .i64 s1, .int .i64 s2, .float .f64 s3] 29)).alloc (.cells #[.map (some mb)] 61)) (.cells #[.slice none 0 0] 25)
    rw [show ((w.alloc (.cells #[.int .i64 s1, .int .i64 s2, .float .f64 s3] 29)).alloc (.cells #[.map (some mb)] 61)).heap.size = w.heap.size + 1 + 1 by simp] at this
    exact this
  have HFZ : Hid (World.frozen? _ ⟨w.heap.size + 1 + 1, 0, none⟩ = false) := frozen_of_row hbox
  have hmb := hm.lt
  clear hm hO hs k1 k2 k3 k4 hbox
  go_enter Try.func36, Try.ntmps36
  go_wp2_with (first
    | (go_at_call 62; (with_reducible refine (t62 _ _).mono ?_); rintro e w1 ⟨rfl, HG1⟩;
       (have y0 := cell_up (cell_up a0 HG1.out.up) (Up.alloc w1 (.cells #[.int .i64 bins, .int .i64 9223372036854775807] 54)));
       (have y1 := cell_up (cell_up a1 HG1.out.up) (Up.alloc w1 (.cells #[.int .i64 bins, .int .i64 9223372036854775807] 54)));
       (have y2 := cell_up (cell_up a2 HG1.out.up) (Up.alloc w1 (.cells #[.int .i64 bins, .int .i64 9223372036854775807] 54))))
    | (go_at_call 35; (with_reducible refine (t35 _ _ _ _).mono ?_); rintro e w2 ⟨rfl, HG2⟩))
  have uA := HU0.out
  have uB := HG1.out.up
  have uC := Up.alloc w1 (.cells #[.int .i64 bins, .int .i64 9223372036854775807] 54)
  have uD := HG2.out.up
  have hz0 := HSZ.out
  have sB := RowKit.Below.size uB
  have sC := RowKit.Below.size uC
  have sD := RowKit.Below.size uD
  have hz1 : (w1.alloc (.cells #[.int .i64 bins, .int .i64 9223372036854775807] 54)).heap.size = w1.heap.size + 1 := by simp
  have HGR : Hid (cell2 w2 w1.heap.size (.int .i64 bins) (.int .i64 9223372036854775807)) := ⟨cell_up (two_cells w1 _ _ 54).1 uD, cell_up (two_cells w1 _ _ 54).2 uD⟩
  have H0 : Hid (HS w.heap.size (w.heap.size + 1) (w.heap.size + 1 + 1) mb N R.length (.slice none 0 0) 0 ([], R) (fun k => k < w2.heap.size ∧ k ≠ w.heap.size + 1 + 1 ∧ k ≠ mb) w2) :=
    { lb := cell_up (cell_up (cell_up a3 uB) uC) uD
      gb := cell_up (cell_up (cell_up a4 uB) uC) uD
      fz := frozen_up (frozen_up (frozen_up HFZ.out uB (by omega)) uC (by omega)) uD (by omega)
      row := World.ownsRow_nil _ _ _ _
      len := rfl
      most := by simp
      map := HM.out.up ((uA.trans uB).trans (uC.trans uD))
      bd := fun k hk => hk.1
      n1 := fun h => h.2.1 rfl
      n2 := fun h => h.2.2 rfl
      n3 := fun r hr => by cases hr
      d1 := by omega
      d2 := by omega
      d3 := by omega
      d4 := fun r hr => by cases hr
      hb := by omega }
  have HUW : Hid (Up w w2) := (uA.trans uB).trans (uC.trans uD)
  have hgb1 : w1.heap.size < w2.heap.size := by omega
  have hgb2 : w.heap.size + 1 + 1 < w1.heap.size := by omega
  have HGB : Hid (w1.heap.size < w2.heap.size ∧ w.heap.size + 1 + 1 < w1.heap.size ∧ mb < w.heap.size) := ⟨hgb1, hgb2, hmb⟩
  have hwc : Wc (s1, s2) := by
    obtain ⟨o1, o2, o3, o4⟩ := hok
    simp only at o1 o2 o3 o4
    exact ⟨⟨by show _ ≤ s1; omega, by show s1 ≤ _; omega⟩, by show _ ≤ s2; omega, o4⟩
  have C61 : Hid (Calls Try.prog 61 #[.agg #[.int .i64 s1, .int .i64 s2], .pointer (some ⟨w.heap.size + 1, 0, none⟩), .pointer (some ⟨w.heap.size + 1 + 1, 0, none⟩)] w2 (HE w.heap.size (w.heap.size + 1) (w.heap.size + 1 + 1) mb N R.length (takeL ([], R) (s1, s2)) (fun k => k < w2.heap.size ∧ k ≠ w.heap.size + 1 + 1 ∧ k ≠ mb) w2)) := t61 hn hwc H0.out
  clear uA uB uC uD hz0 sB sC sD hz1 hgb1 hgb2 hmb hwc y0 y1 y2 a0 a1 a2 a3 a4 HSZ HFZ HG1 HG2 HU0
  generalize hB : w.heap.size = B at *
  generalize hQ : w1.heap.size = Q at *
  with_reducible refine C61.out.mono ?_
  rintro e w3 ⟨rfl, HX, HKX⟩
  clear C61
  obtain ⟨v3, M3, hs3⟩ := HX.out
  have HB3 : Hid (BL B (B + 1) (B + 1 + 1) mb N R.length Q bins (fun k => k < w2.heap.size ∧ k ≠ B + 1 + 1 ∧ k ≠ mb) w2 (hangF bins R (s1, s2, s3)) v3 M3 0 (takeL ([], R) (s1, s2)) w3) := by
    have hg := HGB.out
    refine ⟨⟨_, hs3, fun k hk => hk⟩, HKX.out, rfl, take_ok ⟨(fun s hs => nomatch hs), HO.out⟩, ⟨HKX.out.cell ⟨by omega, by omega, by omega⟩ HGR.out.1, HKX.out.cell ⟨by omega, by omega, by omega⟩ HGR.out.2⟩, ?_⟩
    have := hs3.len
    rw [takeL_some HS1.out] at this
    simp at this
    omega
  have hM3 : M3 ≤ R.length := by have := hs3.most; omega
  have HF0 : Hid ((fun k => k < w2.heap.size ∧ k ≠ B + 1 + 1 ∧ k ≠ mb) Q) := by
    have hg := HGB.out
    show _ ∧ _ ∧ _
    exact ⟨by omega, by omega, by omega⟩
  clear hs3 HX HKX HGR H0
  generalize hFZ : (fun k => k < w2.heap.size ∧ k ≠ B + 1 + 1 ∧ k ≠ mb) = F0 at *
  have HFZ : Hid _ := hFZ
  clear hFZ
  go_wp2
  go_loopw [10] (fun vk wr => ∃ (k M : Nat) (v : Value) (st : List Spt × List Spt), vk = .int .i64 k ∧ k ≤ M ∧ M ≤ R.length ∧ Hid (BL B (B + 1) (B + 1 + 1) mb N R.length Q bins F0 w2 (hangF bins R (s1, s2, s3)) v M k st wr)) (fun vk _ => R.length + 1 - (intOf vk).toNat)
  case atStart => exact ⟨0, M3, v3, _, rfl, by omega, hM3, HB3⟩
  case round =>
    clear HB3 hM3
    obtain ⟨k, M, v, st, rfl, hkM, hMR, HB⟩ := hrel
    rename World => wr
    obtain ⟨F, h1, h2⟩ := HB.out.hs
    obtain ⟨p, c, hv, hg⟩ := own_form h1.row
    subst hv
    have q1 := h1.gb
    have HSO : Hid (SO B wr (.slice p M c) st.1) := by show wr.ownsRow _ _ _ _ _ _; rw [h1.len]; exact h1.row
    have HLEN : Hid (st.1.length = M) := h1.len
    by_cases hlt : k < M
    · obtain ⟨r, rfl⟩ := hg (by omega)
      obtain ⟨OR, hrb, _⟩ := OwnR.of_so HSO.out
      obtain ⟨t, ht⟩ : ∃ t, st.1[k]! = t := ⟨_, rfl⟩
      obtain ⟨⟨c0, c1, c2⟩, _⟩ := OR.cell (i := k) (by simp; omega)
      have et : st.1.toArray[k]! = t := by rw [← ht]; simp
      rw [et] at c0 c1 c2
      obtain ⟨t1, t2, t3⟩ := t
      have HT : Hid (st.1[k]! = (t1, t2, t3)) := ht
      simp only at c0 c1 c2
      have g0 := HB.out.grid.1
      have g1 := HB.out.grid.2
      have z1 : (k : Int) < (M : Int) := by omega
      have C53 : Hid (∀ W, Up wr W → Calls Try.prog 53 #[.agg #[.int .i64 bins, .int .i64 9223372036854775807], .agg #[.int .i64 t1, .int .i64 t2], .func (.func 61) #[] #[.pointer (some ⟨B + 1, 0, none⟩), .pointer (some ⟨B + 1 + 1, 0, none⟩)]] W fun e w' => e = .returned (.tuple #[]) ∧ ∃ v' M', Hid (BL B (B + 1) (B + 1 + 1) mb N R.length Q bins F0 w2 (hangF bins R (s1, s2, s3)) v' M' (k + 1) (visit bins st k) w' ∧ M ≤ M' ∧ M' ≤ R.length)) := fun W hu => HB.out.round hu hn b2 HF0.out hlt HT.out
      clear OR ht et h1 h2 hg hrb
      go_wp2_with fail
      refine wp_region_ord 7 [(0, some false), (1, some false), (2, none), (3, none), (4, some false), (6, none), (5, some true)] (fun w' => Up wr w') (by kernel_rfl) (by decide) rfl (by kernel_rfl) (fun _ _ d _ _ h => by cases d <;> exact h) (Up.drewN wr 1) ?_
      refine ⟨_, .agg #[.int .i64 bins, .int .i64 9223372036854775807], some 24, rfl, rfl, Or.inl ⟨rfl, fun w' hS => ?_⟩, ?_⟩
      · have l0 := cell_up g0 hS
        have l1 := cell_up g1 hS
        go_simp
      refine ⟨_, .slice (some ⟨r, 0, none⟩) M c, some 25, rfl, rfl, Or.inl ⟨rfl, fun w' hS => ?_⟩, ?_⟩
      · have l0 := cell_up q1 hS
        go_simp
      refine ⟨_, .int .i64 k, some 26, rfl, rfl, Or.inl ⟨rfl, fun w' hS => ?_⟩, ?_⟩
      · go_simp
      refine ⟨_, .pointer (some ⟨r, k * 3, none⟩), some 27, rfl, rfl, Or.inl ⟨rfl, fun w' hS => ?_⟩, ?_⟩
      · go_simp
      refine ⟨_, .agg #[.int .i64 t1, .int .i64 t2, .float .f64 t3], some 28, rfl, rfl, Or.inl ⟨rfl, fun w' hS => ?_⟩, ?_⟩
      · have l0 := cell_up c0 hS
        have l1 := cell_up c1 hS
        have l2 := cell_up c2 hS
        go_simp
      refine ⟨_, (.func (.func 61) #[] #[.pointer (some ⟨B + 1, 0, none⟩), .pointer (some ⟨B + 1 + 1, 0, none⟩)]), some 30, rfl, rfl, Or.inl ⟨rfl, fun w' hS => ?_⟩, ?_⟩
      · go_simp
      refine wpOp_call (f := 35) rfl rfl rfl #[.agg #[.int .i64 t1, .int .i64 t2, .float .f64 t3]] (by kernel_rfl) (eg35 _ _) ?_
      refine (t35 t1 t2 t3 _).mono ?_
      rintro e w4 ⟨rfl, HG1⟩
      have HU4 : Hid (Up wr w4) := (show Up wr wr.drew from Up.drewN wr 1).trans HG1.out.up
      refine ⟨_, rfl, HU4.out, ?_⟩
      simp only [OrdW, List.drop_succ_cons, List.drop_zero, Act.put, List.setIfInBounds_toArray, List.set_cons_succ, List.set_cons_zero]
      go_wp2_with (first
        | (go_at_call 53; (with_reducible refine (C53.out _ HU4.out).mono ?_); rintro e w5 ⟨rfl, v', M', HB'⟩))
      go_roundw
      case rel => exact ⟨k + 1, M', v', visit bins st k, by go_num, by have := HB'.out.2.1; omega, HB'.out.2.2, HB'.out.1⟩
      case measure => simp [intOf]; omega
    · obtain rfl : k = M := by omega
      have h1M := HB.out.one
      obtain ⟨r, rfl⟩ := hg (by omega)
      obtain ⟨OR, hrb, _⟩ := OwnR.of_so HSO.out
      have HRB : Hid (B ≤ r) := hrb
      have hd := h1.d4 r rfl
      have HD : Hid (r ≠ B + 1 + 1 ∧ r ≠ mb) := ⟨hd.2.1, hd.2.2⟩
      have HMM : Hid (MM wr mb N (fR st.2)) := h1.map
      have HFIN : Hid (hangF bins R (s1, s2, s3) = st) := by
        have := HB.out.run
        rw [show R.length + 1 - k = (R.length - k) + 1 by omega, bfsN, if_neg (by rw [HLEN.out]; omega)] at this
        exact this.symm
      have C63 : Hid (Calls Try.prog 63 #[.slice (some ⟨r, 0, none⟩) k c, .func (.func 58) #[] #[]] wr fun e w' => e = .returned (.tuple #[]) ∧ ∃ d1, Hid (OwnR w' r c d1 ∧ d1.toList.Perm st.1 ∧ ∀ i j, i < j → j < k → ¬ ordC (d1[j]!).1 (d1[j]!).2.1 (d1[i]!).1 (d1[i]!).2.1 < 0) ∧ Hid (Kp (fun j => j ≠ r) wr w')) :=
        t63o OR (by simpa using HLEN.out) (by omega)
      clear OR hrb hd h1 h2 hg
      have z1 : ¬ (k : Int) < (k : Int) := by omega
      go_wp2_with (first
        | (go_at_call 63; (with_reducible refine C63.out.mono ?_); rintro e w6 ⟨rfl, d1, HR1, HK6⟩; (have q6 := HK6.out.cell (Ne.symm HD.out.1) q1)))
      go_ret
      rw [HFIN.out]
      have hl := HLEN.out
      obtain ⟨r1, r2, r3⟩ := HR1.out
      have hdl : d1.toList.length = k := by rw [r2.length_eq]; exact hl
      refine ⟨some ⟨r, 0, none⟩, c, d1.toList, by rw [hl]; rfl, ⟨?_, r2, ?_⟩, HMM.out.kp HK6.out (Ne.symm HD.out.2), ?_⟩
      · rw [hl, hB]
        exact OwnR.so (by simpa using r1) HRB.out hdl
      · rw [List.pairwise_iff_getElem]
        intro i j hi hj hij
        have hi' : i < d1.size := by simpa using hi
        have hj' : j < d1.size := by simpa using hj
        have := r3 i j hij (by rw [← hdl]; exact hj)
        rw [getElem!_pos d1 i hi', getElem!_pos d1 j hj'] at this
        simpa using this
      · have hg := HGB.out
        have hr := HRB.out
        rw [hB]
        refine ((Kp.of_up HUW.out).trans (HB.out.kp.mono (fun j hj => ?_))).trans (HK6.out.mono (fun j hj => by omega))
        rw [← HFZ.out]
        exact ⟨by omega, by omega, hj.1⟩
end Go.Proofs.Ytephkmahnbhmbaa

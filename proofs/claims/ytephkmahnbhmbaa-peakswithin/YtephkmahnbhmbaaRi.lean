/- Groups: the walk. -/
import Derived.Test.YtephkmahnbhmbaaRg2
namespace Go.Proofs.Ytephkmahnbhmbaa
open Go.ChangeShapes Go.WideShapes Go.ChangeAt Go.RowKit Go.Fl Go.Sort Go.Shelf Go.Lib Go.Maps
attribute [local go_sem] run_store_float call52 run_neg fold_eq fold_ne fold_lt fold_gt abs_eq eqg57

theorem cnt_ok {d : Array Spt} {bins : Int} {n : Nat} (hW : ∀ i, i < n → Wf d[i]!) {s : Spt} (h : s ∈ cntF (keptN d bins n)) : Ok bins s ∧ Wf s := by
  have h1 := ((cntF_of (keptN d bins n)).2 s).1 h
  obtain ⟨h2, i, h3, h4⟩ := keptN_mem h1.mem
  have h5 := hW i h3
  rw [h4] at h5
  simp [kpB] at h2
  exact ⟨⟨h2.1.1, h2.1.2, h2.2, h5.2.2⟩, h5⟩
theorem insC_len (s : Spt) : ∀ C : List Spt, (insC s C).length ≤ C.length + 1
  | [] => by simp [insC]
  | t :: r => by
    unfold insC
    split
    · simp
    · split
      · simp
      · have := insC_len s r; simp; omega
theorem cnt_len (L : List Spt) : (cntF L).length ≤ L.length := by
  have : ∀ (L C : List Spt), (L.foldl (fun acc s => insC s acc) C).length ≤ C.length + L.length := by
    intro L
    induction L with
    | nil => intro C; simp
    | cons a l ih =>
      intro C
      have h1 := ih (insC a C)
      have h2 := insC_len a C
      simp; omega
  have := this L []
  simpa [cntF] using this
set_option maxRecDepth 20000 in
theorem make61 (m : Int) (w : World) : (Instr.makeMap 61 (some (.int .i64 m))).run Try.prog w = .ok (.map (some w.heap.size)) (w.alloc (.map #[] 0)) := by
  simp [Instr.makeMap, run_underlying Try.underlying61, asInt, asIntOf, Result.andThen]
theorem get_mid {C : List Spt} {i : Nat} {s : Spt} {M : Nat} (hM : C.length = M) (hi : i < M) (hs : C[i]! = s) : s ∈ C := by
  rw [← hs, getElem!_pos C i (by omega)]; exact List.getElem_mem _
/-- No group comes of a spot that is not left. -/
theorem L2.skip {w w1 : World} {q : Option Addr} {M c mb i : Nat} {bins : Int} {C : List Spt} {v : Value} {k : Nat} {A Cc : Nat → Nat} {D : Nat → List Spt} {wr : World} (h : L2 w w1 q M c mb i bins C v k A Cc D wr) (hf : (fR (grpN bins C i).2 (cellOf C[i]!)).isSome = false) : L2 w w1 q M c mb (i + 1) bins C v k A Cc D wr := by
  have e : grpN bins C (i + 1) = grpN bins C i := by rw [grpN, hf]; rfl
  exact ⟨h.up, h.row, by rw [e]; exact h.map, h.kp, h.gt, by rw [e]; exact h.len, by rw [e]; exact h.is, h.lt⟩
theorem grpN_rlen {bins : Int} {C : List Spt} (h : Dis C) : ∀ i, (grpN bins C i).2.length ≤ C.length
  | 0 => Nat.le_refl _
  | i + 1 => by
    have ih := grpN_rlen (bins := bins) h i
    unfold grpN
    split
    · have := (hang_perm (bins := bins) (grpN_dis (bins := bins) h i) C[i]!).1.length_eq
      rw [List.length_append] at this
      show (hangF bins (grpN bins C i).2 C[i]!).2.length ≤ _
      omega
    · exact ih
/-- One group more. -/
theorem L2.grow {w w1 : World} {q : Option Addr} {M c mb j : Nat} {bins : Int} {C : List Spt} {v v' : Value} {k : Nat} {A Cc : Nat → Nat} {D : Nat → List Spt} {W5 w6 w7 : World} {s : Spt} {r' c' m : Nat} {G : List Spt} {o : Obj} (h : L2 w w1 q M c mb j bins C v k A Cc D W5) (hW : ∀ s ∈ C, Wf s) (hD : Dis C) (hs : C[j]! = s) (hf : (fR (grpN bins C j).2 (cellOf s)).isSome = true)
    (hr : OwnR w6 r' c' G.toArray) (hrb : W5.heap.size ≤ r') (hP : G.Perm (hangF bins (grpN bins C j).2 s).1) (hS : G.Pairwise (fun s t => ¬ ordC t.1 t.2.1 s.1 s.2.1 < 0)) (hm : MM w6 mb M (fR (hangF bins (grpN bins C j).2 s).2)) (hk : Kp (fun b => b ≠ mb ∧ b < W5.heap.size) W5 w6)
    (hown : w7.ownsRow (mb + 1) 25 1 v' (k + 1) (((List.range k).map fun a => Value.slice (some ⟨A a, 0, none⟩) (D a).length (Cc a)) ++ [.slice (some ⟨r', 0, none⟩) G.length c'])) (hg : (w6.alloc o).grownBy w7 v.ownBlock) (hmm : w6.heap.size ≤ m) (hat : v'.ownBlock = v.ownBlock ∨ v'.ownBlock = some m) :
    L2 w w1 q M c mb (j + 1) bins C v' (k + 1) (fun a => if a < k then A a else r') (fun a => if a < k then Cc a else c') (fun a => if a < k then D a else G) w7 := by
  have hdR := grpN_dis (bins := bins) hD j
  have hsub := grpN_sub (bins := bins) hD j
  have hWL : ∀ t ∈ (hangF bins (grpN bins C j).2 s).1, Wf t := fun t ht => hW t (hsub t ((hang_perm hdR s).1.mem_iff.1 (List.mem_append_left _ ht)))
  have eG : G = cntF (hangF bins (grpN bins C j).2 s).1 := sorted_cnt hWL (hang_dis hdR s) hP hS
  have e : grpN bins C (j + 1) = ((grpN bins C j).1 ++ [cntF (hangF bins (grpN bins C j).2 s).1], (hangF bins (grpN bins C j).2 s).2) := by
    rw [grpN, hs, if_pos hf]
  have hlt := h.lt
  have hAlt := h.gt.lt
  have hk1 : Kp (fun b => v.ownBlock = some b ∨ ∃ a, a < k ∧ b = A a) W5 w6 := hk.mono (fun b hb => by
    rcases hb with hb | ⟨a, ha, rfl⟩
    · have := h.gt.own.lt b hb; omega
    · have := hAlt a ha; have := (h.gt.row a ha).2; omega)
  have hvb : ∀ b, v.ownBlock = some b → mb + 1 ≤ b := fun b hb => (h.gt.own.lt b hb).1
  have hk7 : Kp (fun b => b ≤ mb) w6 w7 := (Kp.of_up (Up.alloc w6 o)).trans (grown_kp hg (fun b hb hle => by have := hvb b hb; omega))
  have hk67 : Kp (fun b => b < mb) W5 w7 := (hk.mono (fun b hb => ⟨by omega, by omega⟩)).trans (hk7.mono (fun b hb => by omega))
  refine ⟨h.up, h.row.imp_right (fun ⟨r, e, o', l⟩ => ⟨r, e, o'.kp hk67 l, l⟩), ?_, h.kp.trans hk67, h.gt.app hk1 hr hrb (by omega) hown hg hmm hat, ?_, fun a ha => ?_, ?_⟩
  · rw [e]; exact hm.kp hk7 (Nat.le_refl _)
  · rw [e, List.length_append, ← h.len]; rfl
  · rw [e]
    show _ = ((grpN bins C j).1 ++ [cntF _])[a]!
    by_cases q : a < k
    · simp only [if_pos q]
      rw [h.is a q]
      have hl := h.len
      rw [getElem!_pos _ a (by omega), getElem!_pos _ a (by simp; omega), List.getElem_append_left (by omega)]
    · obtain rfl : a = k := by omega
      simp only [if_neg q]
      have hl := h.len
      rw [getElem!_pos _ a (by simp; omega), List.getElem_append_right (by omega), eG]
      simp
  · have := hk.size; have := hk7.size; omega
theorem so_row {b n c : Nat} {w : World} {p : Option Addr} {G : List Spt} (h : SO b w (.slice p n c) G) (h0 : 0 < G.length) : ∃ r, p = some ⟨r, 0, none⟩ ∧ OwnR w r c G.toArray ∧ b ≤ r ∧ n = G.length := by
  obtain ⟨p', c', hv, hg⟩ := own_form h
  obtain ⟨r, rfl⟩ := hg h0
  simp only [Value.slice.injEq] at hv
  obtain ⟨rfl, _, rfl⟩ := hv
  obtain ⟨o1, o2, o3⟩ := OwnR.of_so h
  exact ⟨r, rfl, o1, o2, o3.symm⟩
/-- A spot that is left stands among those that hang together with it. -/
theorem bfs_len {bins : Int} : ∀ (f k : Nat) (st : List Spt × List Spt), st.1.length ≤ (bfsN bins f k st).1.length
  | 0, _, _ => Nat.le_refl _
  | f + 1, k, st => by
    unfold bfsN
    split
    · exact Nat.le_trans (fold_len _ st) (bfs_len f (k + 1) _)
    · exact Nat.le_refl _
theorem hang_pos {bins : Int} {R : List Spt} {s : Spt} (h : (fR R (cellOf s)).isSome = true) : 0 < (hangF bins R s).1.length := by
  obtain ⟨u, hu⟩ := Option.isSome_iff_exists.1 h
  have h1 := bfs_len (bins := bins) (R.length + 1) 0 (takeL ([], R) (cellOf s))
  rw [takeL_some (st := ([], R)) hu] at h1
  unfold hangF
  rw [takeL_some (st := ([], R)) hu]
  simp at h1 ⊢
  omega
/-- The second loop's end. -/
theorem L2.res {w w1 : World} {q : Option Addr} {M c mb : Nat} {bins : Int} {C : List Spt} {pp : Option Addr} {k cc : Nat} {A Cc : Nat → Nat} {D : Nat → List Spt} {wr : World} (h : L2 w w1 q M c mb M bins C (.slice pp k cc) k A Cc D wr) (hmb : w1.heap.size = mb) : GRes w (grpN bins C M).1 (.returned (.slice pp k cc)) wr := by
  have hl := h.len
  have hu1 := RowKit.Below.size h.up
  subst hl
  refine ⟨pp, cc, A, Cc, D, rfl, ⟨h.gt.base (by omega), h.is⟩, ?_⟩
  exact h.up.trans2 h.kp (fun k hk => by omega)
set_option maxRecDepth 20000 in
set_option maxHeartbeats 4000000 in
theorem t15 {w : World} {p : Option Addr} {n cap : Nat} {d : Array Spt} {bins : Int} (HS : ∀ m, m ≤ n → Sorts m) (h : SpV w p n cap d) (b2 : bins ≤ 9223372036854775807) : Calls Try.prog 15 #[.slice p n cap, .int .i64 bins] w (GRes w (grpN bins (cntF (keptN d bins n)) (cntF (keptN d bins n)).length).1) := by
  obtain ⟨i0, hi0, hz0, hz1, hz2⟩ := info_parts info25
  have hfew := h.few
  have HOK : Hid (∀ s ∈ cntF (keptN d bins n), Ok bins s ∧ Wf s) := fun s hs => cnt_ok h.wf hs
  have hlen : (cntF (keptN d bins n)).length ≤ n := Nat.le_trans (cnt_len _) (keptN_len _ _ _)
  have HDI : Hid (Dis (cntF (keptN d bins n))) := dis_of_rise (cntF_of _).1 (fun s hs => (HOK.out s hs).2)
  have C34 : Hid (Calls Try.prog 34 #[.slice p n cap, .int .i64 bins] w (SR w (cntF (keptN d bins n)))) := t34 HS h
  clear h HS
  generalize cntF (keptN d bins n) = C at *
  obtain ⟨M, hM⟩ : ∃ M, C.length = M := ⟨_, rfl⟩
  have HM : Hid (C.length = M) := hM
  rw [hM] at hlen ⊢
  clear hM
  have hmm := make61 (M : Int)
  have C34 : Hid (Calls Try.prog 34 #[.slice p n cap, .int .i64 bins] w fun e w' => ∃ q c, e = .returned (.slice q M c) ∧ Hid (SO w.heap.size w' (.slice q M c) C) ∧ Hid (Up w w')) := HM.out ▸ C34.out
  have m1 : (0 : Int) ≤ (M : Int) := by omega
  go_enter Try.func15, Try.ntmps15
  go_wp2_with (first
    | (go_at_call 34; (with_reducible refine C34.out.mono ?_); rintro e w1 ⟨q, c, rfl, HSO, HU1⟩))
  have HL : Hid (L1 w w1 q M c w1.heap.size 0 C (w1.alloc (.map #[] 0))) := by
    refine ⟨HU1.out, HM.out, ?_, (show MM _ _ 0 (fR []) from MM.made w1), Kp.of_up (Up.alloc _ _), rfl, by simp⟩
    rcases Nat.eq_zero_or_pos M with e | e
    · exact Or.inl e
    · right
      obtain ⟨p', c', hv, hg⟩ := own_form HSO.out
      rw [HM.out] at hv hg
      obtain ⟨r, rfl⟩ := hg e
      simp only [Value.slice.injEq] at hv
      obtain ⟨rfl, _, rfl⟩ := hv
      obtain ⟨o1, _, _⟩ := OwnR.of_so HSO.out
      exact ⟨r, rfl, o1.up (Up.alloc _ _), o1.lt⟩
  clear HSO hmm C34
  generalize w1.alloc (.map #[] 0) = W1 at *
  generalize hmb : w1.heap.size = mb at *
  go_loopw [8, 22] (fun _ vi wr => ∃ i : Nat, i ≤ M ∧ vi = .int .i64 i ∧ Hid (L1 w w1 q M c mb i C wr)) (fun _ vi _ => M - (intOf vi).toNat)
  case atStart => exact ⟨0, by omega, rfl, HL⟩
  case round =>
    clear HL
    obtain ⟨i, hi, rfl, HL⟩ := hrel
    rename World => wr
    by_cases hlt : i < M
    · obtain ⟨r, hq, OR, hrm⟩ := HL.out.row.resolve_left (by omega)
      subst hq
      obtain ⟨s, hs⟩ : ∃ s, C[i]! = s := ⟨_, rfl⟩
      obtain ⟨⟨c0, c1, c2⟩, _⟩ := OR.cell (i := i) (by have := HM.out; simp; omega)
      have es : C.toArray[i]! = s := by rw [← hs]; simp
      rw [es] at c0 c1 c2
      obtain ⟨s1, s2, s3⟩ := s
      simp only at c0 c1 c2
      have HSS : Hid (C[i]! = (s1, s2, s3)) := hs
      have hin : (s1, s2, s3) ∈ C := by
        have hl := HM.out
        rw [← hs, getElem!_pos C i (by omega)]; exact List.getElem_mem _
      have hwf := (HOK.out _ hin).2
      have z1 : (i : Int) < (M : Int) := by omega
      have HL1 : Hid (L1 w w1 (some ⟨r, 0, none⟩) M c mb i C (wr.alloc (.cells #[.int .i64 s1, .int .i64 s2, .float .f64 s3] 29))) := HL.out.up' (Up.alloc _ _)
      obtain ⟨b0, b1, b3⟩ : (wr.alloc (.cells #[.int .i64 s1, .int .i64 s2, .float .f64 s3] 29)).cell? ⟨wr.heap.size, 0, none⟩ = some (.int .i64 s1) ∧ (wr.alloc (.cells #[.int .i64 s1, .int .i64 s2, .float .f64 s3] 29)).cell? ⟨wr.heap.size, 1, none⟩ = some (.int .i64 s2) ∧ (wr.alloc (.cells #[.int .i64 s1, .int .i64 s2, .float .f64 s3] 29)).cell? ⟨wr.heap.size, 2, none⟩ = some (.float .f64 s3) := by
        refine ⟨?_, ?_, ?_⟩ <;> rw [World.cell?_alloc_at _ _ _ _ rfl] <;> rfl
      clear OR es hs hin
      go_wp2_with fail
      generalize wr.alloc (.cells #[.int .i64 s1, .int .i64 s2, .float .f64 s3] 29) = W2 at *
      generalize wr.heap.size = g2 at *
      refine wp_region_ord 4 [(0, none), (1, some false), (3, some false), (2, some true)] (fun w' => Up W2 w') (by kernel_rfl) (by decide) rfl (by kernel_rfl) (fun _ _ d _ _ h => by cases d <;> exact h) (Up.drewN W2 1) ?_
      refine ⟨_, .map (some mb), some 26, rfl, rfl, Or.inl ⟨rfl, fun w' hS => ?_⟩, ?_⟩
      · go_simp
      refine ⟨_, .agg #[.int .i64 s1, .int .i64 s2, .float .f64 s3], some 27, rfl, rfl, Or.inl ⟨rfl, fun w' hS => ?_⟩, ?_⟩
      · have l0 := cell_up b0 hS
        have l1 := cell_up b1 hS
        have l2 := cell_up b3 hS
        go_simp
      refine ⟨_, .agg #[.int .i64 s1, .int .i64 s2, .float .f64 s3], some 29, rfl, rfl, Or.inl ⟨rfl, fun w' hS => ?_⟩, ?_⟩
      · have l0 := cell_up b0 hS
        have l1 := cell_up b1 hS
        have l2 := cell_up b3 hS
        go_simp
      refine wpOp_call (f := 35) rfl rfl rfl #[.agg #[.int .i64 s1, .int .i64 s2, .float .f64 s3]] (by kernel_rfl) (eg35 _ _) ?_
      refine (t35 s1 s2 s3 _).mono ?_
      rintro e w4 ⟨rfl, HG1⟩
      have HU4 : Hid (Up W2 w4) := (show Up W2 W2.drew from Up.drewN W2 1).trans HG1.out.up
      refine ⟨_, rfl, HU4.out, ?_⟩
      obtain ⟨w5, hst, hm5, hk5⟩ := (HL1.out.up' HU4.out).map.store (c := (s1, s2)) ⟨hwf.1, hwf.2⟩ (s1, s2, s3) (by unfold maxLen; omega)
      have HL5 : Hid (L1 w w1 (some ⟨r, 0, none⟩) M c mb (i + 1) C w5) := (HL1.out.up' HU4.out).step HDI.out hlt (by rw [HSS.out]; exact hm5) hk5
      clear hm5 hk5
      simp only [OrdW, List.drop_succ_cons, List.drop_zero, Act.put, List.setIfInBounds_toArray, List.set_cons_succ, List.set_cons_zero]
      go_wp2
      go_roundw
      case rel => exact ⟨i + 1, by omega, by go_num, HL5⟩
      case measure => simp [intOf]; omega
    · obtain rfl : i = M := by omega
      have HL2 : Hid (L2 w w1 q i c mb 0 bins C (.slice none 0 0) 0 (fun _ => 0) (fun _ => 0) (fun _ => []) wr) := by
        have hl := HL.out
        refine ⟨hl.up, hl.row, ?_, hl.kp, GT.nil _ _ _ _ _, rfl, fun a ha => by omega, hl.lt⟩
        have := hl.map
        rw [← hl.len, List.take_length] at this
        rw [← hl.len]; exact this
      clear HL
      go_wp2
      go_loopw [9, 11, 12, 13, 33] (fun v _ _ _ vi wr => ∃ (j k cc : Nat) (pp : Option Addr) (A Cc : Nat → Nat) (D : Nat → List Spt), j ≤ i ∧ vi = .int .i64 j ∧ v = .slice pp k cc ∧ k ≤ j ∧ Hid (L2 w w1 q i c mb j bins C (.slice pp k cc) k A Cc D wr)) (fun _ _ _ _ vi _ => i - (intOf vi).toNat)
      case atStart => exact ⟨0, 0, 0, none, _, _, _, by omega, rfl, rfl, by omega, HL2⟩
      case round =>
        clear HL2
        obtain ⟨j, k, cc, pp, A, Cc, D, hj, rfl, rfl, hkj, HL⟩ := hrel
        rename World => wr
        by_cases hlt2 : j < i
        · obtain ⟨r, hq, OR, hrm⟩ := HL.out.row.resolve_left (by omega)
          subst hq
          obtain ⟨s, hs⟩ : ∃ s, C[j]! = s := ⟨_, rfl⟩
          obtain ⟨⟨c0, c1, c2⟩, _⟩ := OR.cell (i := j) (by have := HM.out; simp; omega)
          have es : C.toArray[j]! = s := by rw [← hs]; simp
          rw [es] at c0 c1 c2
          obtain ⟨s1, s2, s3⟩ := s
          simp only at c0 c1 c2
          have HSS : Hid (C[j]! = (s1, s2, s3)) := hs
          have hwf := (HOK.out _ (get_mid HM.out hlt2 hs)).2
          have HWC : Hid (Wc (s1, s2)) := ⟨hwf.1, hwf.2⟩
          have z1 : (j : Int) < (i : Int) := by omega
          have HL1 : Hid (L2 w w1 (some ⟨r, 0, none⟩) i c mb j bins C (.slice pp k cc) k A Cc D (wr.alloc (.cells #[.int .i64 s1, .int .i64 s2, .float .f64 s3] 29))) := HL.out.up' (Up.alloc _ _)
          obtain ⟨b0, b1, b3⟩ : (wr.alloc (.cells #[.int .i64 s1, .int .i64 s2, .float .f64 s3] 29)).cell? ⟨wr.heap.size, 0, none⟩ = some (.int .i64 s1) ∧ (wr.alloc (.cells #[.int .i64 s1, .int .i64 s2, .float .f64 s3] 29)).cell? ⟨wr.heap.size, 1, none⟩ = some (.int .i64 s2) ∧ (wr.alloc (.cells #[.int .i64 s1, .int .i64 s2, .float .f64 s3] 29)).cell? ⟨wr.heap.size, 2, none⟩ = some (.float .f64 s3) := by
            refine ⟨?_, ?_, ?_⟩ <;> rw [World.cell?_alloc_at _ _ _ _ rfl] <;> rfl
          clear OR es hs hwf HL
          go_wp2_with fail
          generalize wr.alloc (.cells #[.int .i64 s1, .int .i64 s2, .float .f64 s3] 29) = W2 at *
          generalize wr.heap.size = g2 at *
          refine (t35 s1 s2 s3 _).mono ?_
          rintro e w4 ⟨rfl, HG1⟩
          have HL4 : Hid (L2 w w1 (some ⟨r, 0, none⟩) i c mb j bins C (.slice pp k cc) k A Cc D w4) := HL1.out.up' HG1.out.up
          have d0 := cell_up b0 HG1.out.up
          have d1 := cell_up b1 HG1.out.up
          have d3 := cell_up b3 HG1.out.up
          obtain ⟨t, hlk, ht⟩ := HL4.out.map.look HWC.out
          obtain ⟨t1, t2, t3⟩ := t
          clear HL1 HG1 b0 b1 b3 c0 c1 c2
          obtain ⟨fl, hfl⟩ : ∃ fl, (fR (grpN bins C j).2 (s1, s2)).isSome = fl := ⟨_, rfl⟩
          rw [hfl] at hlk
          have HFL : Hid ((fR (grpN bins C j).2 (s1, s2)).isSome = fl) := hfl
          clear hfl
          cases fl
          · go_wp2
            go_roundw
            case rel => exact ⟨j + 1, k, cc, pp, A, Cc, D, by omega, by go_num, rfl, by omega, (HL4.out.skip (by rw [HSS.out]; exact HFL.out)).up' (Up.alloc _ _)⟩
            case measure => simp [intOf]; omega
          · have hsm : ∃ u, fR (grpN bins C j).2 (s1, s2) = some u := Option.isSome_iff_exists.1 HFL.out
            obtain ⟨u, hu⟩ := hsm
            have hin : (s1, s2, s3) ∈ C := get_mid HM.out hlt2 HSS.out
            have hus : u = (s1, s2, s3) := HDI.out.uniq (grpN_sub HDI.out j u (fR_some hu).1) hin (fR_some hu).2
            subst hus
            have HFS : Hid (fR (grpN bins C j).2 (s1, s2) = some (s1, s2, s3)) := hu
            have HRL : Hid ((grpN bins C j).2.length * 24 ≤ 140737488355328) := by
              have e1 := grpN_rlen (bins := bins) HDI.out j
              have e2 := HM.out
              show _ ≤ _
              omega
            have HL5 : Hid (L2 w w1 (some ⟨r, 0, none⟩) i c mb j bins C (.slice pp k cc) k A Cc D (w4.alloc (.cells #[.int .i64 t1, .int .i64 t2, .float .f64 t3] 29))) := HL4.out.up' (Up.alloc _ _)
            have e0 := cell_up d0 (Up.alloc w4 (.cells #[.int .i64 t1, .int .i64 t2, .float .f64 t3] 29))
            have e1 := cell_up d1 (Up.alloc w4 (.cells #[.int .i64 t1, .int .i64 t2, .float .f64 t3] 29))
            have e3 := cell_up d3 (Up.alloc w4 (.cells #[.int .i64 t1, .int .i64 t2, .float .f64 t3] 29))
            have C36 : Hid (Calls Try.prog 36 #[.agg #[.int .i64 s1, .int .i64 s2, .float .f64 s3], .map (some mb), .int .i64 bins] (w4.alloc (.cells #[.int .i64 t1, .int .i64 t2, .float .f64 t3] 29)) (HR (w4.alloc (.cells #[.int .i64 t1, .int .i64 t2, .float .f64 t3] 29)) mb i (hangF bins (grpN bins C j).2 (s1, s2, s3)).1 (hangF bins (grpN bins C j).2 (s1, s2, s3)).2)) :=
              t36 HRL.out b2 (fun t ht => (HOK.out t (grpN_sub HDI.out j t ht)).1) HL5.out.map HFS.out
            clear hu hin ht
            have HPOS : Hid (0 < (hangF bins (grpN bins C j).2 (s1, s2, s3)).1.length) := hang_pos (s := (s1, s2, s3)) HFL.out
            have hmbl := HL5.out.lt
            have hkf : (k + 1) * 24 ≤ 140737488355328 := by omega
            go_wp2_with (first
              | (go_at_call 36; (with_reducible refine C36.out.mono ?_); rintro e w6 ⟨p6, c6, G, rfl, HR6, HM6, HK6⟩;
                 (obtain ⟨r', hp6, hor, hrb, hgl⟩ := so_row HR6.out.1 (by rw [HR6.out.2.1.length_eq]; exact HPOS.out)); subst hp6; rw [hgl];
                 (have HOR : Hid (OwnR w6 r' c6 G.toArray) := hor); clear hor;
                 (have HPM : Hid (G.Perm (hangF bins (grpN bins C j).2 (s1, s2, s3)).1) := HR6.out.2.1);
                 (have HPW : Hid (G.Pairwise (fun s t => ¬ ordC t.1 t.2.1 s.1 s.2.1 < 0)) := HR6.out.2.2);
                 (have HOW : Hid (w6.ownsRow (mb + 1) 25 1 (.slice pp k cc) k ((List.range k).map fun a => Value.slice (some ⟨A a, 0, none⟩) (D a).length (Cc a))) := owns_kp HL5.out.gt.own HK6.out (fun r hr => by have := HL5.out.gt.own.lt r hr; omega)); clear HR6 hgl;
                 (have hsz6 := HK6.out.size))
              | (at_builtin; refine wpList_append_own_at _ rfl _ _ 34 rfl (mb + 1) 25 i0 (.slice none 0 0) 1 24 Try.underlying34 hi0 hz0 hz1 hz2 rfl (by decide) _ _ _ rfl (HOW.out.alloc _) ⟨w6.heap.size, 0, none⟩ 1 1 [.slice (some ⟨r', 0, none⟩) G.length c6] rfl rfl (one_new _ _ _) (one_cellV rfl) (by unfold maxLen; omega) hkf (by simp; omega) ?_))
            intro v' w7 hown' hgrow hnil hat
            have HL7 : Hid _ := HL5.out.grow (fun s hs => (HOK.out s hs).2) HDI.out HSS.out HFL.out HOR.out hrb HPM.out (by simpa only [Int.not_lt] using HPW.out) HM6.out HK6.out hown' hgrow (by simp) hat
            obtain ⟨p7, c7, rfl, -⟩ := own_form hown'
            go_wp2
            go_roundw
            case rel => exact ⟨j + 1, k + 1, c7, p7, _, _, _, by omega, by go_num, rfl, by omega, HL7⟩
            case measure => simp [intOf]; omega
        · obtain rfl : j = i := by omega
          have HRS : Hid (GRes w (grpN bins C j).1 (.returned (.slice pp k cc)) wr) := HL.out.res hmb
          go_wp2
          go_ret
          exact HRS.out
end Go.Proofs.Ytephkmahnbhmbaa

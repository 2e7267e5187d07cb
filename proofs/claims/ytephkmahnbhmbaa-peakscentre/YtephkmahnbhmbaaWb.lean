/- Centre, the document's. -/
import Derived.Test.YtephkmahnbhmbaaWa
import Derived.Test.YtephkmahnbhmbaaRh
import Derived.Test.YtephkmahnbhmbaaSg
namespace Go.Proofs.Ytephkmahnbhmbaa
open Go.ChangeShapes Go.WideShapes Go.ChangeAt Go.RowKit Go.Fl Go.Sort
attribute [local go_sem] run_store_float call52 run_neg fold_eq fold_ne fold_lt fold_gt abs_eq
set_option maxRecDepth 20000
theorem top_next (d : Array Spt) (i : Nat) : topF d i = if abvF (ab (d[i]!).2.2) (ab (d[topF d (i - 1)]!).2.2) = true then i else topF d (i - 1) := by
  cases i with
  | zero => show 0 = _; rw [show (0 : Nat) - 1 = 0 from rfl]; show 0 = if abvF (ab (d[0]!).2.2) (ab (d[0]!).2.2) = true then 0 else 0; split <;> rfl
  | succ k => rfl
def fBin (d : Array Spt) (tb B : Int) : Nat → Option Nat := fun j => bin .mul (ab (d[j]!).2.2) (flI (nearF (clI (d[j]!).1 - tb) B))
def fGate (d : Array Spt) (tg : Int) : Nat → Option Nat := fun j => bin .mul (ab (d[j]!).2.2) (flI (clI (d[j]!).2.1 - tg))
theorem row4_one {w : World} {g a b c : Nat} {n : Int} (h : w.heap[g]? = some (row4 a b c n)) (x : Nat) : (w.setCell ⟨g, 1, none⟩ (.float .f64 x)).heap[g]? = some (row4 a x c n) := row_setCells [.float .f64 x] 1 w _ h
theorem row4_zero {w : World} {g a b c : Nat} {n : Int} (h : w.heap[g]? = some (row4 a b c n)) (x : Nat) : (w.setCell ⟨g, 0, none⟩ (.float .f64 x)).heap[g]? = some (row4 x b c n) := row_setCells [.float .f64 x] 0 w _ h
theorem eg49 (args : Array Value) (w : World) : (callFunc 49 args).run Try.prog w = .ok (.enter 49 args) w := enters Try.func49 (by kernel_rfl) (by kernel_rfl) _ _
set_option maxHeartbeats 8000000 in
theorem t19 {w : World} {p : Option Addr} {n cap : Nat} {d : Array Spt} (bins : Int) (h : SpV w p n cap d) : Calls Try.prog 19 #[.slice p n cap, .int .i64 bins] w (CR w n (centF d n bins)) := by
  by_cases h0 : n = 0
  · subst h0
    have k2 := heap_alloc_last w (.cells #[.float .f64 0, .float .f64 0, .float .f64 0, .int .i64 0] 39)
    go_enter Try.func19, Try.ntmps19
    go_wp2
    exact bodyPost_ret (results_cell_row Try.results19 _ _ _ 39 #[.float .f64 0, .float .f64 0, .float .f64 0, .int .i64 0] (0, 0) _ rfl k2 Try.underlying39 rfl (by kernel_rfl)) rfl ⟨0, 0, 0, rfl, ⟨rfl, rfl, rfl⟩, Up.alloc _ _⟩
  · have h0 : 0 < n := by omega
    have q0 : ((n : Int) == 0) = false := by rw [beq_eq_false_iff_ne]; omega
    have ecF : centF d n bins = centT d n (min (max bins 0) 1073741824) (clI (d[topF d (n - 1)]!).1) (clI (d[topF d (n - 1)]!).2.1) := by unfold centF; rw [if_neg (by omega)]
    rw [ecF]
    clear ecF
    obtain ⟨B, hB⟩ : ∃ B, min (max bins 0) 1073741824 = B := ⟨_, rfl⟩
    have b0 : 0 ≤ B := by omega
    have b1 : B ≤ 1073741824 := by omega
    have C47 : Hid (∀ w, Calls Try.prog 47 #[.int .i64 bins, .int .i64 0, .int .i64 1073741824] w fun e w' => e = .returned (.int .i64 B) ∧ w' = w) := fun w => by
      have := t47 bins 0 1073741824 w
      rwa [bins_into, hB] at this
    have C47c : Hid (∀ (x : Int) w, Calls Try.prog 47 #[.int .i64 x, .int .i64 (-1073741824), .int .i64 1073741824] w fun e w' => e = .returned (.int .i64 (clI x)) ∧ w' = w) := fun x w => by
      have := t47 x (-1073741824) 1073741824 w
      rwa [clI_into] at this
    rw [hB]
    obtain ⟨tt, htt⟩ : ∃ x, topF d (n - 1) = x := ⟨_, rfl⟩
    rw [htt]
    obtain ⟨a1, a2⟩ := clI_in (d[tt]!).1
    obtain ⟨a3, a4⟩ := clI_in (d[tt]!).2.1
    obtain ⟨tb, htb⟩ : ∃ x, clI (d[tt]!).1 = x := ⟨_, rfl⟩
    obtain ⟨tg, htg⟩ : ∃ x, clI (d[tt]!).2.1 = x := ⟨_, rfl⟩
    rw [htb] at a1 a2
    rw [htg] at a3 a4
    rw [htb, htg]
    have HTB : Hid (topF d (n - 1) = tt ∧ clI (d[tt]!).1 = tb ∧ clI (d[tt]!).2.1 = tg) := ⟨htt, htb, htg⟩
    clear htt htb htg
    have HSV : Hid (SpV w p n cap d) := h
    have hf := h.few
    have hc := h.cap
    obtain ⟨i0, hi0, hz0, hz1, hz2⟩ := info_parts info29
    obtain ⟨j0, hj0, hy0, hy1, hy2⟩ := info_parts info23
    have HRX : Hid ((w.alloc (.cells #[.float .f64 0, .float .f64 0, .float .f64 0, .int .i64 0] 39)).heap[w.heap.size]? = some (row4 0 0 0 0)) := heap_alloc_last _ _
    have HU0 : Hid (Up w (w.alloc (.cells #[.float .f64 0, .float .f64 0, .float .f64 0, .int .i64 0] 39))) := Up.alloc _ _
    have HS0 : Hid ((w.alloc (.cells #[.float .f64 0, .float .f64 0, .float .f64 0, .int .i64 0] 39)).heap.size = w.heap.size + 1) := by show _ = _; simp
    have HL0 : Hid (LA (w.alloc (.cells #[.float .f64 0, .float .f64 0, .float .f64 0, .int .i64 0] 39)) d 0 0 (.slice none 0 0) (.slice none 0 0) (w.alloc (.cells #[.float .f64 0, .float .f64 0, .float .f64 0, .int .i64 0] 39))) := LA.start _ _
    have FIN : Hid (∀ (wr : World) (x y z : Nat) (tmps : Array Value), wr.heap[w.heap.size]? = some (row4 0 0 0 0) → Up w wr → tmps.getD 4 undef = .pointer (some ⟨w.heap.size, 0, none⟩) → ab x = (centT d n B tb tg).1 → ab y = (centT d n B tb tg).2.1 → ab z = (centT d n B tb tg).2.2 → bodyPost Try.prog Try.f19 (CR w n (centT d n B tb tg)) Exit.ret { tmps := tmps, defers := [] } (wr.setCells w.heap.size 0 [.float .f64 x, .float .f64 y, .float .f64 z, .int .i64 n])) := by
      intro wr x y z tmps hrow hup htm hx hy hz
      have hk : Kp (fun k => k ≠ w.heap.size) wr (wr.setCells w.heap.size 0 [.float .f64 x, .float .f64 y, .float .f64 z, .int .i64 n]) := kp_setCells (by simp) _ _ _
      exact bodyPost_ret (results_cell_row Try.results19 _ _ _ 39 #[.float .f64 x, .float .f64 y, .float .f64 z, .int .i64 n] (0, 0) _ htm (row_setCells _ 0 wr _ hrow) Try.underlying39 rfl (by kernel_rfl)) rfl ⟨x, y, z, rfl, ⟨hx, hy, hz⟩, hup.trans2 hk (fun k hk => by omega)⟩
    clear h hB
    go_enter Try.func19, Try.ntmps19
    go_wp2_with (go_at_call 47; (with_reducible refine (C47.out _).mono ?_); rintro e w' ⟨rfl, hw⟩; subst w')
    generalize w.alloc (.cells #[.float .f64 0, .float .f64 0, .float .f64 0, .int .i64 0] 39) = W0 at *
    generalize hR : w.heap.size = R at *
    go_loopw [6, 7, 8, 9, 10] (fun v6 v7 v8 v9 _ wr => ∃ (i c6 c7 : Nat) (p6 p7 : Option Addr), i ≤ n ∧ v6 = .slice p6 i c6 ∧ v7 = .slice p7 i c7 ∧ v8 = .int .i64 (topF d (i - 1)) ∧ v9 = .int .i64 i ∧ Hid (LA W0 d i i (.slice p6 i c6) (.slice p7 i c7) wr)) (fun _ _ _ v9 _ _ => n - (intOf v9).toNat)
    case atStart => exact ⟨0, 0, 0, none, none, by omega, rfl, rfl, rfl, rfl, HL0⟩
    case round =>
      clear HL0
      obtain ⟨i, c6, c7, p6, p7, hi, rfl, rfl, rfl, rfl, HLA⟩ := hrel
      rename World => wr
      obtain ⟨t, ht⟩ : ∃ t, topF d (i - 1) = t := ⟨_, rfl⟩
      have hti : t ≤ i - 1 := by rw [← ht]; exact topF_le d _
      have HT : Hid (topF d (i - 1) = t) := ht
      rw [ht]
      clear ht
      by_cases hlt : i < n
      · obtain ⟨b, o, rfl, hr⟩ := HSV.out.rd h0
        have HBL : Hid (b < W0.heap.size) := by
          have k0 := (hr i hlt).1
          exact Nat.lt_of_lt_of_le (World.block_lt_of_cell? w _ k0) HU0.out.size
        obtain ⟨k0, k1, k2⟩ := hr i hlt
        have kt := (hr t (by omega)).2.2
        obtain ⟨s, hs⟩ : ∃ s, d[i]! = s := ⟨_, rfl⟩
        rw [hs] at k0 k1 k2
        have HS : Hid (d[i]! = s) := hs
        obtain ⟨s1, s2, s3⟩ := s
        simp only at k0 k1 k2
        obtain ⟨st, hst⟩ : ∃ st, (d[t]!).2.2 = st := ⟨_, rfl⟩
        rw [hst] at kt
        have HST : Hid ((d[t]!).2.2 = st) := hst
        have hu := HU0.out.trans HLA.out.up
        replace k0 := cell_up k0 hu
        replace k1 := cell_up k1 hu
        replace k2 := cell_up k2 hu
        have HKT : Hid (w.cell? ⟨b, o + t * 3 + 2, none⟩ = some (.float .f64 st)) := kt
        have HK2 : Hid (w.cell? ⟨b, o + i * 3 + 2, none⟩ = some (.float .f64 s3)) := by have := (hr i hlt).2.2; rw [HS.out] at this; exact this
        clear hr hs hst hu kt
        have y1 : (i : Int) < (n : Int) := by omega
        have y2 : (0 : Int) ≤ (i : Int) := by omega
        have y3 : (t : Int) < (n : Int) := by omega
        have y4 : (0 : Int) ≤ (t : Int) := by omega
        obtain ⟨x1, hx1⟩ : ∃ x, clI s1 = x := ⟨_, rfl⟩
        obtain ⟨x2, hx2⟩ : ∃ x, clI s2 = x := ⟨_, rfl⟩
        have C1 : Hid (∀ w, Calls Try.prog 47 #[.int .i64 s1, .int .i64 (-1073741824), .int .i64 1073741824] w fun e w' => e = .returned (.int .i64 x1) ∧ w' = w) := fun w => hx1 ▸ C47c.out s1 w
        have C2 : Hid (∀ w, Calls Try.prog 47 #[.int .i64 s2, .int .i64 (-1073741824), .int .i64 1073741824] w fun e w' => e = .returned (.int .i64 x2) ∧ w' = w) := fun w => hx2 ▸ C47c.out s2 w
        have HBR : Hid (brS d[i]! = (x1, x2, s3)) := by show brS _ = _; rw [HS.out, ← hx1, ← hx2]; rfl
        clear hx1 hx2
        have HO6 : Hid (wr.ownsRow W0.heap.size 29 3 (.slice p6 i c6) i ((brL d i).flatMap spC)) := HLA.out.o6
        have ag : some b ≠ (Value.slice p6 i c6).ownBlock := fun q => by have := (World.ownsRow.lt HO6.out b q.symm).1; have := HBL.out; omega
        have hle : W0.heap.size ≤ wr.heap.size := HLA.out.up.size
        go_upto_region 10 with fail
        go_cut [6] from 31 to 51 (fun s6 wx => ∃ g c : Nat, s6 = .slice (some ⟨g, 0, none⟩) (i + 1) c ∧ Hid (LA W0 d (i + 1) i (.slice (some ⟨g, 0, none⟩) (i + 1) c) (.slice p7 i c7) wx))
        case first =>
          go_region_held3 (fun w' => w'.cell? ⟨b, o + i * 3, none⟩ = some (.int .i64 s1) ∧ w'.cell? ⟨b, o + i * 3 + 1, none⟩ = some (.int .i64 s2) ∧ w'.cell? ⟨b, o + i * 3 + 2, none⟩ = some (.float .f64 s3))
            (first
              | go_keep
              | exact ⟨keep_far hgrow ag k0, keep_far hgrow ag k1, keep_far hgrow ag k2⟩)
            (first
              | (go_at_call 47; (with_reducible refine (C1.out _).mono ?_); rintro e w' ⟨rfl, hw⟩; subst w')
              | (go_at_call 47; (with_reducible refine (C2.out _).mono ?_); rintro e w' ⟨rfl, hw⟩; subst w')
              | ((refine step_append_lies _ (by rfl) _ _ _ (by rfl) W0.heap.size 29 i0 _ 3 24 Try.underlying25 hi0 hz0 hz1 hz2 rfl (by omega) (.slice p6 i c6) i _ (by rfl) ((HO6.out.alloc _).drew) ⟨wr.heap.size, 0, none⟩ 1 1 [.int .i64 x1, .int .i64 x2, .float .f64 s3] (by rfl) (by rfl) (World.news_of_block (cs := #[.int .i64 x1, .int .i64 x2, .float .f64 s3]) (t := 29) (fr := (0, 0)) (heap_alloc_new wr _)) (three_one rfl rfl rfl) (by omega) (by unfold maxLen; omega) (by omega) (by simp; omega) (wr.heap.size + 1) (by simp) ?_; intro gg cap' w1 hown1 hgrow hat hlt2)))
          all_goals
            have RO : Hid (LA W0 d (i + 1) i (.slice (some ⟨gg, 0, none⟩) (i + 1) cap') (.slice p7 i c7) w1) := LA.spot (k := 1) HLA.out HBR.out hown1 hgrow
            try go_wp2
            go_meet
            case rel => exact ⟨gg, cap', rfl, RO⟩
        case rest =>
          obtain ⟨g, c, rfl, HLB⟩ := hcut
          clear HLA HO6 ag hle k0 k1 k2 C1 C2
          have hu := HU0.out.trans HLB.out.up
          have k2 := cell_up HK2.out hu
          have hle : W0.heap.size ≤ wc.heap.size := HLB.out.up.size
          have HO7 : Hid (wc.ownsRow W0.heap.size 24 1 (.slice p7 i c7) i ((pwL d i).map fe)) := HLB.out.o7
          clear hu
          go_wp2_with (at_builtin; refine wpList_append_own _ rfl _ _ 23 rfl W0.heap.size 24 j0 (.float .f64 0) 1 8 Try.underlying23 hj0 hy0 hy1 hy2 rfl (by decide) _ _ _ rfl (HO7.out.alloc _) ⟨wc.heap.size, 0, none⟩ 1 1 [.float .f64 s3] rfl rfl (one_new _ _ _) (one_cellV rfl) (by unfold maxLen; omega) (by omega) (by simp; omega) ?_)
          intro v' w3 hown' hgrow _
          obtain ⟨p7', c7', hv, _⟩ := own_form hown'
          subst hv
          have HLC : Hid (LA W0 d (i + 1) (i + 1) (.slice (some ⟨g, 0, none⟩) (i + 1) c) (.slice p7' (i + 1) c7') w3) := LA.power HLB.out (by rw [HS.out]) hown' hgrow
          clear hown' hgrow HO7 HLB k2
          have hu := HU0.out.trans HLC.out.up
          have k2 := cell_up HK2.out hu
          have kt := cell_up HKT.out hu
          clear hu
          obtain ⟨f, hf2⟩ : ∃ f, abvF (ab s3) (ab st) = f := ⟨_, rfl⟩
          have C48 : Hid (∀ w, Calls Try.prog 48 #[.float .f64 s3, .float .f64 st] w fun e w' => e = .returned (.bool f) ∧ w' = w) := fun w => hf2 ▸ t48 s3 st w
          have HTN : Hid (topF d i = if f = true then i else t) := by
            show _ = _
            rw [top_next, HT.out, HS.out, HST.out, hf2]
          clear hf2
          go_wp2_with fail
          go_quiet (first | (go_at_call 48; refine Calls.quiet_of_same (C48.out _)))
          cases f
          · go_wp2
            go_roundw
            case rel => exact ⟨i + 1, c, c7', _, p7', by omega, rfl, rfl, by rw [Nat.add_sub_cancel, HTN.out]; rfl, by go_num, HLC.out.up' (Up.drewN _ _)⟩
            case measure => simp [intOf]; omega
          · go_wp2
            go_roundw
            case rel => exact ⟨i + 1, c, c7', _, p7', by omega, rfl, rfl, by rw [Nat.add_sub_cancel, HTN.out]; rfl, by go_num, HLC.out.up' (Up.drewN _ _)⟩
            case measure => simp [intOf]; omega
      · obtain rfl : i = n := by omega
        have HTB : Hid (clI (d[t]!).1 = tb ∧ clI (d[t]!).2.1 = tg) := by rw [← HT.out, HTB.out.1]; exact HTB.out.2
        have HSO : SO W0.heap.size wr (.slice p6 i c6) (brL d i) := by unfold SO; rw [brL_len]; exact HLA.out.o6
        obtain ⟨g6, hp6, hor, hb6, -⟩ := so_row HSO (by rw [brL_len]; exact h0)
        subst hp6
        have HB6 : Hid (W0.heap.size ≤ g6) := hb6
        obtain ⟨⟨l0, l1, -⟩, -⟩ := hor.cell (i := t) (by simp [brL_len]; omega)
        have HES : Hid (∀ k, k < i → (brL d i).toArray[k]! = brS d[k]!) := fun k hk => by rw [← brL_get d hk]; simp
        rw [HES.out t (by omega)] at l0 l1
        simp only [brS] at l0 l1
        rw [HTB.out.1] at l0
        rw [HTB.out.2] at l1
        have HOR : Hid (OwnR wr g6 c6 (brL d i).toArray) := hor
        have C49 : Hid (Calls Try.prog 49 #[.slice p7 i c7] wr (FR wr (powN d i))) := t49o HLA.out.o7 (pwL_len d i) h0 (by omega) (fun k hk => by rw [pwL_get d hk])
        have HUR : Hid (Up W0 wr) := HLA.out.up
        have z1 : (t : Int) < (i : Int) := by omega
        have z2 : (0 : Int) ≤ (t : Int) := by omega
        clear HLA HSO hor hb6 C47 C47c hi hlt hti
        go_wp2_with (go_at_call 49; (with_reducible refine C49.out.mono ?_); rintro e w4 ⟨ra, ka, rfl, hw, HRA⟩; subst w4)
        clear C49
        replace l0 := cell_up l0 (Up.drewN wr ka)
        replace l1 := cell_up l1 (Up.drewN wr ka)
        have HOR : Hid (OwnR (wr.drewN ka) g6 c6 (brL d i).toArray) := HOR.out.up (Up.drewN _ _)
        have HUR : Hid (Up W0 (wr.drewN ka)) := HUR.out.trans (Up.drewN _ _)
        have eM : wr.heap.size = (wr.drewN ka).heap.size := rfl
        try rw [eM]
        clear eM
        generalize wr.drewN ka = W1 at *
        generalize hM : W1.heap.size = M at *
        go_cut [12] from 75 to 90 (fun s12 wx => s12 = .pointer (some ⟨M, 0, none⟩) ∧ Hid (wx.heap[M]? = some (row4 (floatOfInt .f64 tb) (floatOfInt .f64 tg) ra i)) ∧ Hid (Up W1 wx))
        case first =>
          go_region_held3 (fun w' => w'.cell? ⟨g6, t * 3, none⟩ = some (.int .i64 tb) ∧ w'.cell? ⟨g6, t * 3 + 1, none⟩ = some (.int .i64 tg)) (first | go_keep | exact ⟨cell_up l0 (Up.alloc _ _), cell_up l1 (Up.alloc _ _)⟩) (fail)
          all_goals
            try go_wp2
            go_meet
            case rel => exact ⟨rfl, by show _ = _; rw [← hM]; exact heap_alloc_last W1 _, (Up.alloc _ _).trans (Up.drewN _ 1)⟩
        case rest =>
          obtain ⟨rfl, HM, HU1⟩ := hcut
          clear l0 l1
          have HUC : Hid (Up W0 wc) := HUR.out.trans HU1.out
          have HOC : Hid (OwnR wc g6 c6 (brL d i).toArray) := HOR.out.up HU1.out
          have HRC : Hid (wc.heap[R]? = some (row4 0 0 0 0)) := row4_up HRX.out HUC.out
          have HWC : Hid (Up w wc) := HU0.out.trans HUC.out
          have HMR : Hid (R < M) := by
            have e1 := HUR.out.size
            have e2 := HS0.out
            show _ < _
            omega
          clear HUR HU1 HOR
          obtain ⟨⟨r0, r1, r2, r3⟩, f0, f1, f2, f3⟩ := row4_cells HRC.out
          obtain ⟨⟨m0, m1, m2, m3⟩, g0, g1, g2, g3⟩ := row4_cells HM.out
          obtain ⟨f, hf2⟩ : ∃ f, fin (ab ra) = f := ⟨_, rfl⟩
          have C50 : Hid (∀ w, Calls Try.prog 50 #[.float .f64 ra] w fun e w' => e = .returned (.bool f) ∧ w' = w) := fun w => hf2 ▸ t50 ra w
          obtain ⟨q, hq⟩ : ∃ q, gtF (ab ra) (ab 0) = q := ⟨_, rfl⟩
          have HPB : Hid (posB (powN d i) = (f && q)) := by show _ = _; rw [← HRA.out, posB_fin, hf2, hq]
          have NO : Hid ((f && q) = false → ∀ tmps : Array Value, tmps.getD 4 undef = .pointer (some ⟨R, 0, none⟩) → bodyPost Try.prog Try.f19 (CR w i (centT d i B tb tg)) Exit.ret { tmps := tmps, defers := [] } (wc.setCells R 0 [.float .f64 (floatOfInt .f64 tb), .float .f64 (floatOfInt .f64 tg), .float .f64 ra, .int .i64 i])) := by
            intro h tmps ht
            have hc := cent_no (B := B) (tb := tb) (tg := tg) (HPB.out.trans h)
            exact FIN.out wc _ _ ra tmps HRC.out HWC.out ht (by rw [hc]) (by rw [hc]) (by rw [hc]; exact HRA.out)
          clear hf2
          cases f
          · go_wp2_with (go_at_call 50; (with_reducible refine (C50.out _).mono ?_); rintro e w' ⟨rfl, hw⟩; subst w')
            exact NO.out rfl _ rfl
          · cases q
            · go_wp2_with (go_at_call 50; (with_reducible refine (C50.out _).mono ?_); rintro e w' ⟨rfl, hw⟩; subst w')
              exact NO.out rfl _ rfl
            · have HC : Hid (centT d i B tb tg = (withF (bin .add (flI tb) (bin .quo (binSum d tb B i) (powN d i))) B, bin .add (flI tg) (bin .quo (gateSum d tg i) (powN d i)), powN d i)) := cent_yes HPB.out
              clear NO HPB
              go_wp2_with (go_at_call 50; (with_reducible refine (C50.out _).mono ?_); rintro e w' ⟨rfl, hw⟩; subst w')
              clear C50 r0 r1 r2 r3 f0 f1 f2 f3 m0 m1 m2 m3 g0 g1 g2 g3 hq
              have HLB0 : Hid (LB wc (fBin d tb B) (fGate d tg) 0 0 (.slice none 0 0) (.slice none 0 0) [] [] wc) := LB.start _ _ _
              go_loopw [14, 15, 16, 17] (fun v14 v15 v16 _ wr2 => ∃ (k c1 c2 : Nat) (p1 p2 : Option Addr) (X Y : List Nat), k ≤ i ∧ v14 = .slice p1 k c1 ∧ v15 = .slice p2 k c2 ∧ v16 = .int .i64 k ∧ Hid (LB wc (fBin d tb B) (fGate d tg) k k (.slice p1 k c1) (.slice p2 k c2) X Y wr2)) (fun _ _ v16 _ _ => i - (intOf v16).toNat)
              case atStart => exact ⟨0, 0, 0, none, none, [], [], by omega, rfl, rfl, rfl, HLB0⟩
              case round =>
                clear HLB0
                obtain ⟨k, c1, c2, p1, p2, X, Y, hk, rfl, rfl, rfl, HLB⟩ := hrel
                rename World => wr2
                by_cases hlk : k < i
                · obtain ⟨⟨l0, l1, l2⟩, -⟩ := (HOC.out.up HLB.out.up).cell (i := k) (by simp [brL_len]; omega)
                  obtain ⟨⟨t0, t1, -⟩, -⟩ := (HOC.out.up HLB.out.up).cell (i := t) (by simp [brL_len]; omega)
                  rw [HES.out k hlk] at l0 l1 l2
                  rw [HES.out t (by omega)] at t0 t1
                  simp only [brS, HTB.out.1, HTB.out.2] at l0 l1 l2 t0 t1
                  obtain ⟨e1, e2⟩ := clI_in (d[k]!).1
                  obtain ⟨e3, e4⟩ := clI_in (d[k]!).2.1
                  obtain ⟨x1, hx1⟩ : ∃ x, clI (d[k]!).1 = x := ⟨_, rfl⟩
                  obtain ⟨x2, hx2⟩ : ∃ x, clI (d[k]!).2.1 = x := ⟨_, rfl⟩
                  obtain ⟨x3, hx3⟩ : ∃ x, (d[k]!).2.2 = x := ⟨_, rfl⟩
                  rw [hx1] at l0 e1 e2
                  rw [hx2] at l1 e3 e4
                  rw [hx3] at l2
                  obtain ⟨nf, hnf⟩ : ∃ x, nearF (x1 - tb) B = x := ⟨_, rfl⟩
                  have C51 : Hid (∀ w, Calls Try.prog 51 #[.int .i64 x1, .int .i64 tb, .int .i64 B] w fun e w' => e = .returned (.int .i64 nf) ∧ w' = w) := fun w => hnf ▸ t51 x1 tb B w b0 b1 (by omega) (by omega)
                  have HXX : Hid (fBin d tb B k = bin .mul (ab x3) (ab (floatOfInt .f64 nf)) ∧ fGate d tg k = bin .mul (ab x3) (ab (floatOfInt .f64 (x2 - tg)))) := by
                    refine ⟨?_, ?_⟩
                    · unfold fBin; rw [hx1, hx3, hnf]
                    · unfold fGate; rw [hx2, hx3]
                  have HX12 : Hid (clI (d[k]!).2.1 = x2 ∧ (d[k]!).2.2 = x3) := ⟨hx2, hx3⟩
                  clear hx1 hx2 hx3 hnf
                  have y1 : (k : Int) < (i : Int) := by omega
                  have y2 : (0 : Int) ≤ (k : Int) := by omega
                  have hwr : IntKind.i64.wrap (x2 - tg) = x2 - tg := by rw [IntKind.wrap_i64]; omega
                  go_wp2_with fail
                  go_quiet (first | (go_at_call 51; refine Calls.quiet_of_same (C51.out _)))
                  have HLQ : Hid (LB wc (fBin d tb B) (fGate d tg) k k (.slice p1 k c1) (.slice p2 k c2) X Y (wr2.drewN nq)) := HLB.out.up' (Up.drewN _ _)
                  replace l0 := cell_up l0 (Up.drewN wr2 nq)
                  replace l1 := cell_up l1 (Up.drewN wr2 nq)
                  replace l2 := cell_up l2 (Up.drewN wr2 nq)
                  replace t1 := cell_up t1 (Up.drewN wr2 nq)
                  generalize wr2.drewN nq = Wq at *
                  clear HLB t0
                  go_wp2_with (first
                    | ((with_reducible refine upon_fl (by simp) ?_); intro rd kd hrd; (have HL1 : Hid (LB wc (fBin d tb B) (fGate d tg) k k (.slice p1 k c1) (.slice p2 k c2) X Y (Wq.drewN kd)) := HLQ.out.up' (Up.drewN _ kd)); (have HO1 : Hid ((Wq.drewN kd).ownsRow wc.heap.size 24 1 (.slice p1 k c1) k (X.map fe)) := HL1.out.o1); (have hle : wc.heap.size ≤ Wq.heap.size := HLQ.out.up.size))
                    | (at_builtin; refine wpList_append_own_at _ rfl _ _ 23 rfl wc.heap.size 24 j0 (.float .f64 0) 1 8 Try.underlying23 hj0 hy0 hy1 hy2 rfl (by decide) _ _ _ rfl (HO1.out.alloc _) ⟨Wq.heap.size, 0, none⟩ 1 1 [.float .f64 rd] rfl rfl (one_new _ _ _) (one_cellV rfl) (by unfold maxLen; omega) (by omega) (by simp; omega) ?_; intro v1 w5 hown5 hgrow5 hnil5 hat5; (obtain ⟨p1', c1', hv1, -⟩ := own_form hown5); subst hv1; (have HL2 : Hid (LB wc (fBin d tb B) (fGate d tg) (k + 1) k (.slice p1' (k + 1) c1') (.slice p2 k c2) (X ++ [rd]) Y w5) := LB.one HL1.out (hrd.out.trans HXX.out.1.symm) hown5 hgrow5 hat5); clear hown5 hgrow5 hnil5 hat5 HO1 HL1 HLQ l0 l1 l2 t1))
                  obtain ⟨⟨-, u1, u2⟩, -⟩ := (HOC.out.up HL2.out.up).cell (i := k) (by simp [brL_len]; omega)
                  obtain ⟨⟨-, u3, -⟩, -⟩ := (HOC.out.up HL2.out.up).cell (i := t) (by simp [brL_len]; omega)
                  rw [HES.out k hlk] at u1 u2
                  rw [HES.out t (by omega)] at u3
                  simp only [brS, HTB.out.2] at u1 u2 u3
                  rw [HX12.out.1] at u1
                  rw [HX12.out.2] at u2
                  refine wp_region_ord 18 [(0, none), (1, none), (2, none), (3, none), (4, none), (5, some false), (6, none), (7, none), (8, none), (9, none), (10, some false), (11, none), (12, none), (13, none), (14, none), (15, some false), (16, none), (17, none)] (fun w' => Up w5 w') (by kernel_rfl) (by decide) rfl (by kernel_rfl) (fun _ _ d _ _ h => by cases d <;> exact h) (Up.drewN w5 1) ?_
                  refine ⟨_, .slice p2 k c2, some 130, rfl, rfl, Or.inl ⟨rfl, fun w' hS => ?_⟩, ?_⟩
                  · go_simp
                  refine ⟨_, .slice (some ⟨g6, 0, none⟩) i c6, some 131, rfl, rfl, Or.inl ⟨rfl, fun w' hS => ?_⟩, ?_⟩
                  · go_simp
                  refine ⟨_, .int .i64 k, some 132, rfl, rfl, Or.inl ⟨rfl, fun w' hS => ?_⟩, ?_⟩
                  · go_simp
                  refine ⟨_, .pointer (some ⟨g6, k * 3, none⟩), some 133, rfl, rfl, Or.inl ⟨rfl, fun w' hS => ?_⟩, ?_⟩
                  · go_simp
                  refine ⟨_, .pointer (some ⟨g6, k * 3 + 2, none⟩), some 134, rfl, rfl, Or.inl ⟨rfl, fun w' hS => ?_⟩, ?_⟩
                  · go_simp
                  refine ⟨_, .float .f64 x3, some 135, rfl, rfl, Or.inl ⟨rfl, fun w' hS => ?_⟩, ?_⟩
                  · have l0 := cell_up u2 hS
                    go_simp
                  refine ⟨_, .slice (some ⟨g6, 0, none⟩) i c6, some 136, rfl, rfl, Or.inl ⟨rfl, fun w' hS => ?_⟩, ?_⟩
                  · go_simp
                  refine ⟨_, .int .i64 k, some 137, rfl, rfl, Or.inl ⟨rfl, fun w' hS => ?_⟩, ?_⟩
                  · go_simp
                  refine ⟨_, .pointer (some ⟨g6, k * 3, none⟩), some 138, rfl, rfl, Or.inl ⟨rfl, fun w' hS => ?_⟩, ?_⟩
                  · go_simp
                  refine ⟨_, .pointer (some ⟨g6, k * 3 + 1, none⟩), some 139, rfl, rfl, Or.inl ⟨rfl, fun w' hS => ?_⟩, ?_⟩
                  · go_simp
                  refine ⟨_, .int .i64 x2, some 140, rfl, rfl, Or.inl ⟨rfl, fun w' hS => ?_⟩, ?_⟩
                  · have l0 := cell_up u1 hS
                    go_simp
                  refine ⟨_, .slice (some ⟨g6, 0, none⟩) i c6, some 141, rfl, rfl, Or.inl ⟨rfl, fun w' hS => ?_⟩, ?_⟩
                  · go_simp
                  refine ⟨_, .int .i64 t, some 142, rfl, rfl, Or.inl ⟨rfl, fun w' hS => ?_⟩, ?_⟩
                  · go_simp
                  refine ⟨_, .pointer (some ⟨g6, t * 3, none⟩), some 143, rfl, rfl, Or.inl ⟨rfl, fun w' hS => ?_⟩, ?_⟩
                  · go_simp
                  refine ⟨_, .pointer (some ⟨g6, t * 3 + 1, none⟩), some 144, rfl, rfl, Or.inl ⟨rfl, fun w' hS => ?_⟩, ?_⟩
                  · go_simp
                  refine ⟨_, .int .i64 tg, some 145, rfl, rfl, Or.inl ⟨rfl, fun w' hS => ?_⟩, ?_⟩
                  · have l0 := cell_up u3 hS
                    go_simp
                  refine ⟨_, .int .i64 (x2 - tg), some 146, rfl, rfl, Or.inl ⟨rfl, fun w' hS => ?_⟩, ?_⟩
                  · go_simp
                  refine ⟨_, .float .f64 (floatOfInt .f64 (x2 - tg)), some 147, rfl, rfl, Or.inl ⟨rfl, fun w' hS => ?_⟩, ?_⟩
                  · go_simp
                  simp only [OrdW, List.drop_succ_cons, List.drop_zero, Act.put, List.setIfInBounds_toArray, List.set_cons_succ, List.set_cons_zero]
                  have hle : wc.heap.size ≤ w5.heap.size := HL2.out.up.size
                  go_wp2_with (first
                    | ((with_reducible refine upon_fl (by simp) ?_); intro re ke hre; (have HL3 : Hid (LB wc (fBin d tb B) (fGate d tg) (k + 1) k (.slice p1' (k + 1) c1') (.slice p2 k c2) (X ++ [rd]) Y (w5.drewN (1 + ke))) := HL2.out.up' (Up.drewN w5 _)); (have HO2 : Hid ((w5.drewN (1 + ke)).ownsRow wc.heap.size 24 1 (.slice p2 k c2) k (Y.map fe)) := HL3.out.o2))
                    | (at_builtin; refine wpList_append_own_at _ rfl _ _ 23 rfl wc.heap.size 24 j0 (.float .f64 0) 1 8 Try.underlying23 hj0 hy0 hy1 hy2 rfl (by decide) _ _ _ rfl (HO2.out.alloc _) ⟨w5.heap.size, 0, none⟩ 1 1 [.float .f64 re] rfl rfl (one_new _ _ _) (one_cellV rfl) (by unfold maxLen; omega) (by omega) (by simp; omega) ?_; intro v2 w6 hown6 hgrow6 hnil6 hat6; (obtain ⟨p2', c2', hv2, -⟩ := own_form hown6); subst hv2; (have HL4 : Hid (LB wc (fBin d tb B) (fGate d tg) (k + 1) (k + 1) (.slice p1' (k + 1) c1') (.slice p2' (k + 1) c2') (X ++ [rd]) (Y ++ [re]) w6) := LB.two HL3.out (hre.out.trans HXX.out.2.symm) hown6 hgrow6 hat6); clear hown6 hgrow6 hnil6 hat6 HO2 HL3 HL2))
                  go_roundw
                  case rel => exact ⟨k + 1, c1', c2', p1', p2', _, _, by omega, rfl, rfl, by go_num, HL4⟩
                  case measure => simp [intOf]; omega
                · obtain rfl : k = i := by omega
                  have C49g : Hid (∀ W, Up wr2 W → Calls Try.prog 49 #[.slice p2 k c2] W (FR W (gateSum d tg k))) := fun W hu => t49o (owns_up HLB.out.o2 hu) HLB.out.l2 h0 (by omega) HLB.out.e2
                  have C49b : Hid (∀ W, Kp (fun j => j ≠ M) wr2 W → Calls Try.prog 49 #[.slice p1 k c1] W (FR W (binSum d tb B k))) := fun W hu => t49o (owns_kp HLB.out.o1 hu (fun g hg => by
                    have h1 := (HLB.out.o1.lt g hg).1
                    have h2 := (Array.getElem?_eq_some_iff.1 HM.out).1
                    omega)) HLB.out.l1 h0 (by omega) HLB.out.e1
                  have HM6 : Hid (wr2.heap[M]? = some (row4 (floatOfInt .f64 tb) (floatOfInt .f64 tg) ra k)) := row4_up HM.out HLB.out.up
                  have HR6 : Hid (wr2.heap[R]? = some (row4 0 0 0 0)) := row4_up HRC.out HLB.out.up
                  have HW6 : Hid (Up w wr2) := HWC.out.trans HLB.out.up
                  obtain ⟨⟨-, z1, -, -⟩, -⟩ := row4_cells HM6.out
                  clear HLB HOC HES
                  go_wp2_with fail
                  refine wp_region_ord 7 [(0, none), (1, some false), (2, none), (4, none), (3, some true), (5, some true), (6, some true)] (fun w' => Up wr2 w') (by kernel_rfl) (by decide) rfl (by kernel_rfl) (fun _ _ d _ _ h => by cases d <;> exact h) (Up.drewN wr2 1) ?_
                  refine ⟨_, .pointer (some ⟨M, 1, none⟩), some 151, rfl, rfl, Or.inl ⟨rfl, fun w' hS => ?_⟩, ?_⟩
                  · go_simp
                  refine ⟨_, .float .f64 (floatOfInt .f64 tg), some 152, rfl, rfl, Or.inl ⟨rfl, fun w' hS => ?_⟩, ?_⟩
                  · have l0 := cell_up z1 hS
                    go_simp
                  refine ⟨_, .slice p2 k c2, some 153, rfl, rfl, Or.inl ⟨rfl, fun w' hS => ?_⟩, ?_⟩
                  · go_simp
                  refine ⟨_, .float .f64 ra, some 155, rfl, rfl, Or.inl ⟨rfl, fun w' hS => ?_⟩, ?_⟩
                  · go_simp
                  refine wpOp_call (f := 49) rfl rfl rfl #[.slice p2 k c2] (by kernel_rfl) (eg49 _ _) ?_
                  refine (C49g.out _ (Up.drewN wr2 1)).mono ?_
                  rintro e ww ⟨re, ke, rfl, hw, hre⟩
                  subst ww
                  refine ⟨_, rfl, (show Up wr2 (wr2.drewN 1) from Up.drewN _ _).trans (Up.drewN _ _), ?_⟩
                  refine wpOp_fl rfl rfl rfl re ra (by kernel_rfl) (by kernel_rfl) (Or.inr (Or.inr (Or.inr rfl))) ?_
                  intro rq kq hrq
                  refine ⟨((show Up wr2 (wr2.drewN 1) from Up.drewN _ _).trans (Up.drewN _ _)).trans (Up.drewN _ _), ?_⟩
                  refine wpOp_fl rfl rfl rfl (floatOfInt .f64 tg) rq (by kernel_rfl) (by kernel_rfl) (Or.inl rfl) ?_
                  intro ry ky hry
                  refine ⟨(((show Up wr2 (wr2.drewN 1) from Up.drewN _ _).trans (Up.drewN _ _)).trans (Up.drewN _ _)).trans (Up.drewN _ _), ?_⟩
                  simp only [OrdW, List.drop_succ_cons, List.drop_zero, Act.put, List.setIfInBounds_toArray, List.set_cons_succ, List.set_cons_zero]
                  obtain ⟨Z, hZ⟩ : ∃ Z, Z = (((wr2.drewN 1).drewN ke).drewN kq).drewN ky := ⟨_, rfl⟩
                  rw [← hZ]
                  have HUZ : Hid (Up wr2 Z) := by rw [hZ]; exact (((show Up wr2 (wr2.drewN 1) from Up.drewN _ _).trans (Up.drewN _ _)).trans (Up.drewN _ _)).trans (Up.drewN _ _)
                  clear hZ z1
                  have HMZ : Hid (Z.heap[M]? = some (row4 (floatOfInt .f64 tb) (floatOfInt .f64 tg) ra k)) := row4_up HM6.out HUZ.out
                  have HRZ : Hid (Z.heap[R]? = some (row4 0 0 0 0)) := row4_up HR6.out HUZ.out
                  obtain ⟨⟨m0, m1, m2, m3⟩, g0, g1, g2, g3⟩ := row4_cells HMZ.out
                  go_wp2
                  clear m0 m1 m2 m3 g0 g1 g2 g3
                  have HK9 : Hid (Kp (fun j => j ≠ M) wr2 (Z.setCell ⟨M, 1, none⟩ (.float .f64 ry))) := (Kp.of_up HUZ.out).trans (Kp.setCell _ _ _ _ (by simp))
                  have HM9 : Hid ((Z.setCell ⟨M, 1, none⟩ (.float .f64 ry)).heap[M]? = some (row4 (floatOfInt .f64 tb) ry ra k)) := row4_one HMZ.out ry
                  have HR9 : Hid ((Z.setCell ⟨M, 1, none⟩ (.float .f64 ry)).heap[R]? = some (row4 0 0 0 0)) := by
                    show _ = _
                    rw [(Kp.setCell (F := fun j => j ≠ M) Z M 1 _ (by simp)).block R (by have := HMR.out; show R ≠ M; omega) (Array.getElem?_eq_some_iff.1 HRZ.out).1]; exact HRZ.out
                  generalize Z.setCell ⟨M, 1, none⟩ (.float .f64 ry) = w9 at *
                  obtain ⟨⟨z0, -, -, -⟩, -⟩ := row4_cells HM9.out
                  have C49b : Hid (∀ W, Up w9 W → Calls Try.prog 49 #[.slice p1 k c1] W (FR W (binSum d tb B k))) := fun W hu => C49b.out W (HK9.out.trans (Kp.of_up hu))
                  refine wp_region_ord 7 [(0, none), (1, some false), (2, none), (4, none), (3, some true), (5, some true), (6, some true)] (fun w' => Up w9 w') (by kernel_rfl) (by decide) rfl (by kernel_rfl) (fun _ _ d _ _ h => by cases d <;> exact h) (Up.drewN w9 1) ?_
                  refine ⟨_, .pointer (some ⟨M, 0, none⟩), some 159, rfl, rfl, Or.inl ⟨rfl, fun w' hS => ?_⟩, ?_⟩
                  · go_simp
                  refine ⟨_, .float .f64 (floatOfInt .f64 tb), some 160, rfl, rfl, Or.inl ⟨rfl, fun w' hS => ?_⟩, ?_⟩
                  · have l0 := cell_up z0 hS
                    go_simp
                  refine ⟨_, .slice p1 k c1, some 161, rfl, rfl, Or.inl ⟨rfl, fun w' hS => ?_⟩, ?_⟩
                  · go_simp
                  refine ⟨_, .float .f64 ra, some 163, rfl, rfl, Or.inl ⟨rfl, fun w' hS => ?_⟩, ?_⟩
                  · go_simp
                  refine wpOp_call (f := 49) rfl rfl rfl #[.slice p1 k c1] (by kernel_rfl) (eg49 _ _) ?_
                  refine (C49b.out _ (Up.drewN w9 1)).mono ?_
                  rintro e ww ⟨rd, kd, rfl, hw, hrd⟩
                  subst ww
                  refine ⟨_, rfl, (show Up w9 (w9.drewN 1) from Up.drewN _ _).trans (Up.drewN _ _), ?_⟩
                  refine wpOp_fl rfl rfl rfl rd ra (by kernel_rfl) (by kernel_rfl) (Or.inr (Or.inr (Or.inr rfl))) ?_
                  intro rp kp hrp
                  refine ⟨((show Up w9 (w9.drewN 1) from Up.drewN _ _).trans (Up.drewN _ _)).trans (Up.drewN _ _), ?_⟩
                  refine wpOp_fl rfl rfl rfl (floatOfInt .f64 tb) rp (by kernel_rfl) (by kernel_rfl) (Or.inl rfl) ?_
                  intro rx kx hrx
                  refine ⟨(((show Up w9 (w9.drewN 1) from Up.drewN _ _).trans (Up.drewN _ _)).trans (Up.drewN _ _)).trans (Up.drewN _ _), ?_⟩
                  simp only [OrdW, List.drop_succ_cons, List.drop_zero, Act.put, List.setIfInBounds_toArray, List.set_cons_succ, List.set_cons_zero]
                  obtain ⟨V, hV⟩ : ∃ V, V = (((w9.drewN 1).drewN kd).drewN kp).drewN kx := ⟨_, rfl⟩
                  rw [← hV]
                  have HUV : Hid (Up w9 V) := by rw [hV]; exact (((show Up w9 (w9.drewN 1) from Up.drewN _ _).trans (Up.drewN _ _)).trans (Up.drewN _ _)).trans (Up.drewN _ _)
                  clear hV z0
                  have HMV : Hid (V.heap[M]? = some (row4 (floatOfInt .f64 tb) ry ra k)) := row4_up HM9.out HUV.out
                  have HRV : Hid (V.heap[R]? = some (row4 0 0 0 0)) := row4_up HR9.out HUV.out
                  have HKV : Hid (Kp (fun j => j ≠ M) wr2 V) := HK9.out.trans (Kp.of_up HUV.out)
                  have HRX : Hid (ab rx = bin .add (flI tb) (bin .quo (binSum d tb B k) (powN d k))) := by show _ = _; rw [hrx.out, hrp.out, hrd.out, HRA.out]
                  have HRY : Hid (ab ry = bin .add (flI tg) (bin .quo (gateSum d tg k) (powN d k))) := by show _ = _; rw [hry.out, hrq.out, hre.out, HRA.out]
                  have LAST : Hid (∀ (x j : Nat) (tmps : Array Value), ab x = withF (ab rx) B → tmps.getD 4 undef = .pointer (some ⟨R, 0, none⟩) → bodyPost Try.prog Try.f19 (CR w k (centT d k B tb tg)) Exit.ret { tmps := tmps, defers := [] } (((V.drewN j).setCell ⟨M, 0, none⟩ (.float .f64 x)).setCells R 0 [.float .f64 x, .float .f64 ry, .float .f64 ra, .int .i64 k])) := by
                    intro x j tmps hx ht
                    have hk : Kp (fun j => j ≠ M) wr2 ((V.drewN j).setCell ⟨M, 0, none⟩ (.float .f64 x)) := HKV.out.trans ((Kp.of_up (Up.drewN _ _)).trans (Kp.setCell _ _ _ _ (by simp)))
                    refine FIN.out _ x ry ra tmps ?_ ?_ ht ?_ ?_ ?_
                    · rw [hk.block R (by have := HMR.out; show R ≠ M; omega) (Array.getElem?_eq_some_iff.1 HR6.out).1]; exact HR6.out
                    · exact HW6.out.trans2 hk (fun q hq => by have := HMR.out; show q ≠ M; omega)
                    · rw [HC.out, hx, HRX.out]
                    · rw [HC.out]; exact HRY.out
                    · rw [HC.out]; exact HRA.out
                  have LAST0 : Hid (∀ (x : Nat) (tmps : Array Value), ab x = withF (ab rx) B → tmps.getD 4 undef = .pointer (some ⟨R, 0, none⟩) → bodyPost Try.prog Try.f19 (CR w k (centT d k B tb tg)) Exit.ret { tmps := tmps, defers := [] } ((V.setCell ⟨M, 0, none⟩ (.float .f64 x)).setCells R 0 [.float .f64 x, .float .f64 ry, .float .f64 ra, .int .i64 k])) := fun x tmps hx ht => LAST.out x 0 tmps hx ht
                  clear HC HK9 HM9 HR9 C49b C49g HKV HMZ HRZ
                  obtain ⟨⟨m0, m1, m2, m3⟩, g0, g1, g2, g3⟩ := row4_cells HMV.out
                  obtain ⟨⟨r0, r1, r2, r3⟩, f0, f1, f2, f3⟩ := row4_cells HRV.out
                  have n1 : ¬ R = M := by have := HMR.out; omega
                  have n2 : ¬ M = R := by have := HMR.out; omega
                  go_wp2_with ((with_reducible refine upon_fl (by simp) ?_); intro r3 k3 hr3)
                  · refine LAST.out r3 k3 _ ?_ ?_
                    · unfold withF; rw [if_pos (by simp_all)]; exact hr3.out
                    · rfl
                  · refine LAST.out r3 k3 _ ?_ ?_
                    · unfold withF; rw [if_neg (by simp_all), if_pos (by simp_all)]; exact hr3.out
                    · rfl
                  · refine LAST0.out rx _ ?_ ?_
                    · unfold withF; rw [if_neg (by simp_all), if_neg (by simp_all)]
                    · rfl
                  · refine LAST0.out rx _ ?_ ?_
                    · unfold withF; rw [if_neg (by omega), if_neg (by omega)]
                    · rfl
end Go.Proofs.Ytephkmahnbhmbaa

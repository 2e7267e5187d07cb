/- StillWeighed: whole, walked. -/
import Derived.Test.YtgalgnopjcpocaaVb
namespace Go.Proofs.Ytgalgnopjcpocaa
open Go.ChangeShapes Go.WideShapes Go.ChangeAt Go.RowKit Go.Fl Ieee
attribute [local go_sem] run_store_float run_store_c isSome_set call20 call33 run_neg fold_eq fold_ne fold_lt fold_gt abs_eq
set_option maxRecDepth 20000 in
set_option maxHeartbeats 8000000 in
theorem t21 {w : World} {R ro N n c : Nat} {P : Nat → Option Addr} {Ln Cp : Nat → Nat} {f : Nat → Nat → Int × Int} (h : GP w R ro N P Ln Cp f) (hN1 : 1 ≤ N) (hN : N ≤ 200) (hL : Ln 0 ≤ 200) (hn : mn Ln N = n) :
    Calls Try.prog 21 #[.slice (some ⟨R, ro, none⟩) N c] w (WO w N n f) := by
  have H : Hid (GP w R ro N P Ln Cp f) := h
  have HM : Hid (mn Ln N = n) := hn
  have hn2 : n ≤ 200 := by rw [← hn]; exact Nat.le_trans (mn_le Ln N 0 (by omega)) hL
  clear h hn
  go_enter Try.func21, Try.ntmps21
  go_wp2
  go_loopw [3, 4] (fun v3 v4 wr => ∃ k : Nat, k ≤ N ∧ v4 = .int .i64 k ∧ v3 = .int .i64 (mn Ln k) ∧ wr = w) (fun _ v4 _ => N - (intOf v4).toNat)
  case atStart => exact ⟨0, by omega, rfl, rfl, rfl⟩
  case round =>
    obtain ⟨k, hk, rfl, rfl, hw⟩ := hrel
    subst wr
    rcases Nat.lt_or_ge k N with hlt | hge
    · have c0 := H.out.hdr k hlt
      have z1 : (k : Int) < (N : Int) := by omega
      have z2 : (0 : Int) ≤ (k : Int) := by omega
      have HS : Hid (mn Ln (k + 1) = if k = 0 ∨ Ln k < mn Ln k then Ln k else mn Ln k) := rfl
      rcases Nat.eq_zero_or_pos k with h0 | h0
      · subst h0
        have c1 : w.cell? ⟨R, ro, none⟩ = some (.slice (P 0) (Ln 0) (Cp 0)) := by simpa using c0
        clear c0
        go_wp2
        go_roundw
        case rel => exact ⟨1, by omega, by go_num, by rw [HS.out, if_pos (Or.inl rfl)], trivial⟩
        case measure => simp [intOf]; omega
      · have z3 : ¬ (k : Int) = 0 := by omega
        by_cases hl : Ln k < mn Ln k
        · have z4 : (Ln k : Int) < (mn Ln k : Int) := by omega
          go_wp2
          go_roundw
          case rel => exact ⟨k + 1, by omega, by go_num, by rw [HS.out, if_pos (Or.inr hl)], trivial⟩
          case measure => simp [intOf]; omega
        · have z4 : ¬ (Ln k : Int) < (mn Ln k : Int) := by omega
          go_wp2
          go_roundw
          case rel => exact ⟨k + 1, by omega, by go_num, by rw [HS.out, if_neg (by omega)], trivial⟩
          case measure => simp [intOf]; omega
    · obtain rfl : k = N := by omega
      rw [HM.out]
      go_wp2
      go_loopw [5, 6, 7, 8] (fun v5 v6 _ _ wr => ∃ (i cap : Nat) (p : Option Addr) (P : Nat → Option Addr) (C : Nat → Nat) (D : Nat → List (Nat × Nat)), i ≤ k ∧ v6 = .int .i64 i ∧ v5 = .slice p i cap ∧ Hid (TT w wr (.slice p i cap) n i P C D) ∧ Hid (∀ a, a < i → ∀ g, g < n → (D a)[g]! = wv (f a g))) (fun _ v6 _ _ _ => k - (intOf v6).toNat)
      case atStart => exact ⟨0, 0, none, _, _, _, by omega, rfl, rfl, TT.nil w n, fun a h => by omega⟩
      case round =>
        obtain ⟨i, cap, p, P', C', D', hi, rfl, rfl, HT, HV⟩ := hrel
        generalize hW : wr = W at *
        clear hW
        rcases Nat.lt_or_ge i k with hlt | hge
        · have z1 : (i : Int) < (k : Int) := by omega
          have z2 : (0 : Int) ≤ (i : Int) := by omega
          have HPI : Hid (PI w (P i) (Ln i) (f i)) := H.out.row i hlt
          have HNL : Hid (n ≤ Ln i) := by show n ≤ Ln i; rw [← HM.out]; exact mn_le Ln k i hlt
          go_wp2
          go_loopw [7, 8] (fun v7 v8 wr => ∃ (j c7 : Nat) (q : Option Addr) (d : List (Nat × Nat)), j ≤ n ∧ v8 = .int .i64 j ∧ v7 = .slice q j c7 ∧ Hid (RU W wr (.slice q j c7) j (f i) d)) (fun _ v8 _ => n - (intOf v8).toNat)
          case atStart => exact ⟨0, 0, none, [], by omega, rfl, rfl, RU.nil W (f i)⟩
          case round =>
            obtain ⟨j, c7, q, d, hj, rfl, rfl, HR⟩ := hrel
            rcases Nat.lt_or_ge j n with hlt2 | hge2
            · have U : Up w wr := HT.out.up.trans HR.out.up
              obtain ⟨b, o, hp, hcell⟩ := HPI.out (by have := HNL.out; omega)
              obtain ⟨q1, q2⟩ := hcell j (by have := HNL.out; omega)
              have k0 := cell_up (H.out.hdr i hlt) U
              rw [hp] at k0
              have k1 := cell_up q1 U
              have k2 := cell_up q2 U
              have y1 : (j : Int) < (n : Int) := by omega
              have y2 : (j : Int) < (Ln i : Int) := by have := HNL.out; omega
              have y3 : (0 : Int) ≤ (j : Int) := by omega
              have lR : R < w.heap.size := World.block_lt_of_cell? w _ (H.out.hdr i hlt)
              have lb : b < w.heap.size := World.block_lt_of_cell? w _ q1
              have sz := HT.out.up.size
              have sz2 := HR.out.up.size
              have HO : Hid (wr.ownsRow W.heap.size 53 1 (.slice q j c7) j (d.map ce)) := by
                have := HR.out.own
                unfold CRow at this
                rw [HR.out.len] at this
                exact this
              have ag : some R ≠ (Value.slice q j c7).ownBlock ∧ some b ≠ (Value.slice q j c7).ownBlock :=
                ⟨fun e => by have := (World.ownsRow.lt HO.out R e.symm).1; omega, fun e => by have := (World.ownsRow.lt HO.out b e.symm).1; omega⟩
              have t1 := tmod_le (f i j).1
              have t2 := tmod_le (f i j).2
              have HX : Hid ((floatOfInt .f64 ((f i j).1.tmod 549755813888), floatOfInt .f64 ((f i j).2.tmod 549755813888)) = wv (f i j)) := rfl
              generalize hx : (f i j).1 = x at *
              generalize hy : (f i j).2 = y at *
              obtain ⟨rx, hrx⟩ : ∃ r, x.tmod 549755813888 = r := ⟨_, rfl⟩
              obtain ⟨ry, hry⟩ : ∃ r, y.tmod 549755813888 = r := ⟨_, rfl⟩
              rw [hrx] at t1 HX
              rw [hry] at t2 HX
              obtain ⟨t3, t4⟩ := t1
              obtain ⟨t5, t6⟩ := t2
              obtain ⟨i0, hi0, hz0, hz1, hz2⟩ := info_parts info53
              clear hx hy q1 q2 U hcell hp
              go_upto_region 15 with fail
              go_region_held3 (fun w' => w'.cell? ⟨R, ro + i, none⟩ = some (.slice (some ⟨b, o, none⟩) (Ln i) (Cp i)) ∧ w'.cell? ⟨b, o + j * 2, none⟩ = some (.int .i64 x) ∧ w'.cell? ⟨b, o + j * 2 + 1, none⟩ = some (.int .i64 y))
                  (first
                    | go_keep
                    | exact ⟨keep_far hgrow ag.1 k0, keep_far hgrow ag.2 k1, keep_far hgrow ag.2 k2⟩)
                  ((refine step_append_lies _ (by rfl) _ _ _ (by rfl) W.heap.size 53 i0 _ 1 16 Try.underlying54 hi0 hz0 hz1 hz2 rfl (by omega) (.slice q j c7) j _ (by rfl) ((HO.out.alloc _).drew)
                          ⟨wr.heap.size, 0, none⟩ 1 1 [.complex .f64 (floatOfInt .f64 rx) (floatOfInt .f64 ry)] (by rfl) (by rfl) (World.news_of_block (cs := #[.complex .f64 (floatOfInt .f64 rx) (floatOfInt .f64 ry)]) (t := 53) (fr := (0, 0)) (heap_alloc_new wr _)) (by simp [Value.oneCell'])
                          (by omega) (by unfold maxLen; omega) (by omega) (by simp; omega) (wr.heap.size + 1) (by simp) ?_; intro gg cap' w1 hown1 hgrow hat hlt3))
              all_goals
                have RO : Hid (RU W w1 (.slice (some ⟨gg, 0, none⟩) (j + 1) cap') (j + 1) (f i) (d ++ [(floatOfInt .f64 rx, floatOfInt .f64 ry)])) := RU.app (j := 1) HR.out HX.out hown1 hgrow
                clear hown1 hgrow hat hlt3 k0 k1 k2 HO HR
                try go_wp2
                go_roundw
                case rel => exact ⟨j + 1, cap', _, _, by omega, by go_num, rfl, RO⟩
                case measure => simp [intOf]; omega
            · obtain rfl : j = n := by omega
              have HO : Hid (wr.ownsRow w.heap.size 54 1 (.slice p i cap) i ((List.range i).map fun a => Value.slice (P' a) j (C' a))) := owns_up HT.out.own HR.out.up
              have sz := HT.out.up.size
              have sz2 := HR.out.up.size
              obtain ⟨i0, hi0, hz0, hz1, hz2⟩ := info_parts info54
              go_wp2_with (at_builtin; refine wpList_append_lies _ rfl _ _ 49 rfl w.heap.size 54 i0 (.slice none 0 0) 1 24 Try.underlying49 hi0 hz0 hz1 hz2 rfl (by omega) _ _ _ rfl (HO.out.alloc _) ⟨wr.heap.size, 0, none⟩ 1 1 [.slice q j c7] rfl rfl (one_new _ _ _) (one_cell rfl) (by omega) (by unfold maxLen; omega) (by omega) (by simp; omega) (wr.heap.size + 1) (by simp) ?_; intro gg cap' w1 hown1 hgrow hat hlt2
                           have RO : Hid (TT w w1 (.slice (some ⟨gg, 0, none⟩) (i + 1) cap') j (i + 1) (fun a => if a < i then P' a else q) (fun a => if a < i then C' a else c7) (fun a => if a < i then D' a else d)) := TT.app (j := 0) HT.out HR.out.up HR.out.own hown1 hgrow (hat.imp_right fun e => by (rw [e]; simp))
                           clear hown1 hgrow hat hlt2 HO)
              go_roundw
              case rel => exact ⟨i + 1, cap', _, _, _, _, by omega, by go_num, rfl, RO, fun a ha g hg => by
                by_cases e : a < i
                · simp only [if_pos e]; exact HV.out a e g hg
                · obtain rfl : a = i := by omega
                  simp only [if_neg e]; exact HR.out.val g hg⟩
              case measure => simp [intOf]; omega
        · obtain rfl : i = k := by omega
          obtain ⟨A, rfl⟩ : ∃ A, p = some ⟨A, 0, none⟩ := by
            obtain ⟨_, _, he, hq⟩ := own_form HT.out.own
            simp only [Value.slice.injEq] at he
            obtain ⟨e1, _, _⟩ := he
            subst e1
            exact hq (by omega)
          go_wp2
          go_ret
          exact ⟨A, cap, P', C', D', rfl, HT, HV⟩
end Go.Proofs.Ytgalgnopjcpocaa

/- Back, the program's. -/
import Derived.Test.YtcgbmcnefolgcaaCe
namespace Go.Proofs.Ytcgbmcnefolgcaa
open Go.ChangeShapes Go.WideShapes Go.ChangeAt Go.RowKit Go.Fl Go.Sort
attribute [local go_sem] run_store_float call22 call54 run_neg fold_eq fold_ne fold_lt fold_gt abs_eq

/-- The state that is k ahead of the last one, m, from behind. -/
def bkN (S : Nat → Stt) (d : Array Nat) (q : Option Nat) (m : Nat) : Nat → S5
  | 0 => (S m).ab
  | k + 1 => stepF (S (m - (k + 1))).ab (ab d[m - (k + 1)]!) q (bkN S d q m k)
/-- What Back leaves. -/
def BaR (w : World) (n : Nat) (S : Nat → Stt) (d : Array Nat) (q : Option Nat) (e : Ending) (w' : World) : Prop := ∃ p c D, e = .returned (.tuple #[.slice p D.length c, .int .i64 (bakE n S d q)]) ∧ Hid (D.length = if bakE n S d q = 0 then n else 0) ∧ Hid (SO w.heap.size w' (.slice p D.length c) D) ∧ Hid (∀ j, j < D.length → (D.getD j Stt.zero).ab = bkN S d q (n - 1) (n - 1 - j)) ∧ Hid (Up w w')
theorem BaR.bad {w w' : World} {n : Nat} {S : Nat → Stt} {d : Array Nat} {q : Option Nat} {c : Int} (h : bakE n S d q = c) (hc : c ≠ 0) (hu : Up w w') : BaR w n S d q (.returned (.tuple #[.slice none 0 0, .int .i64 c])) w' :=
  ⟨none, 0, [], by rw [h]; rfl, by show _ = _; rw [h, if_neg hc]; rfl, SO.nil _ _, fun j hj => by simp at hj, hu⟩
theorem eg30 (args : Array Value) (w : World) : (callFunc 30 args).run Try.prog w = .ok (.enter 30 args) w := enters Try.func30 (by kernel_rfl) (by kernel_rfl) _ _
theorem t11bad {w : World} {p p2 : Option Addr} {n cap m cap2 : Nat} {S : Nat → Stt} {d : Array Nat} (q : Nat) (h : SS w p n cap S) (h2 : SV w p2 m cap2 d) (hE : bakE n S d (ab q) ≠ 0) : Calls Try.prog 11 #[.slice p n cap, .slice p2 m cap2, .float .f64 q] w (BaR w n S d (ab q)) := by
  obtain ⟨c, hc⟩ : ∃ c, bakE n S d (ab q) = c := ⟨_, rfl⟩
  have C29 : Hid (∀ w, SS w p n cap S → SV w p2 m cap2 d → Calls Try.prog 29 #[.slice p n cap, .slice p2 m cap2, .float .f64 q] w fun e w' => e = .returned (.int .i64 c) ∧ Hid (Up w w')) := fun w h h2 => hc ▸ t29 q h h2
  rw [hc] at hE
  have b0 : (c == 0) = false := beq_false_of_ne hE
  have HC : Hid (bakE n S d (ab q) = c) := hc
  have HS : Hid (SS w p n cap S ∧ SV w p2 m cap2 d) := ⟨h, h2⟩
  clear h h2 hc
  go_enter Try.func11, Try.ntmps11
  go_wp2_with (go_at_call 29; (with_reducible refine (C29.out _ HS.out.1 HS.out.2).mono ?_); rintro e w1 ⟨rfl, U1⟩)
  go_ret2
  exact BaR.bad HC.out hE U1.out
theorem getD_set_ne {D : List Stt} {i j : Nat} {s : Stt} (h : i ≠ j) : (D.set i s).getD j Stt.zero = D.getD j Stt.zero := by
  simp only [List.getD_eq_getElem?_getD, List.getElem?_set, if_neg h]
theorem getD_set_eq {D : List Stt} {i : Nat} {s : Stt} (h : i < D.length) : (D.set i s).getD i Stt.zero = s := by
  simp [List.getD_eq_getElem?_getD, h]
theorem getD_map {n j : Nat} {S : Nat → Stt} (h : j < n) : ((List.range n).map S).getD j Stt.zero = S j := by simp [h]
theorem SO.far {b g : Nat} {w w' : World} {v : Value} {D : List Stt} (h : SO b w v D) (hb : But g w w') (hne : v.ownBlock ≠ some g) : SO b w' v D := by
  have hl := h.lt
  obtain ⟨h1, h2⟩ := h
  refine ⟨h1, ?_⟩
  rcases h2 with h2 | ⟨g0, cap0, cur, rfl, k2, k3, k4⟩
  · exact Or.inl h2
  · refine Or.inr ⟨g0, cap0, cur, rfl, k2, ?_, k4⟩
    rw [hb.block g0 (hl g0 rfl).2 (by simpa [Value.ownBlock] using hne)]; exact k3
set_option maxHeartbeats 8000000 in
set_option maxRecDepth 20000 in
theorem t11ok {w : World} {p p2 : Option Addr} {n cap m cap2 : Nat} {S : Nat → Stt} {d : Array Nat} (q : Nat) (h : SS w p n cap S) (h2 : SV w p2 m cap2 d) (hE : bakE n S d (ab q) = 0) : Calls Try.prog 11 #[.slice p n cap, .slice p2 m cap2, .float .f64 q] w (BaR w n S d (ab q)) := by
  obtain ⟨i0, hi0, hz0, hz1, hz2⟩ := info_parts info27
  obtain ⟨q1, q2, _, _, _⟩ := bakE_may hE
  have C29 : Hid (∀ w, SS w p n cap S → SV w p2 m cap2 d → Calls Try.prog 29 #[.slice p n cap, .slice p2 m cap2, .float .f64 q] w fun e w' => e = .returned (.int .i64 0) ∧ Hid (Up w w')) := fun w h h2 => hE ▸ t29 q h h2
  have HE : Hid (bakE n S d (ab q) = 0) := hE
  have HS : Hid (SS w p n cap S ∧ SV w p2 m cap2 d) := ⟨h, h2⟩
  have HL : Hid (d.size = m ∧ m = n - 1) := ⟨h2.len, by rw [← h2.len]; exact q2⟩
  have z0 : (n : Int) ≤ 1024 := by omega
  clear h h2 hE q2
  go_enter Try.func11, Try.ntmps11
  go_wp2_with (first
    | (go_at_call 29; (with_reducible refine (C29.out _ HS.out.1 HS.out.2).mono ?_); rintro e w1 ⟨rfl, U1⟩)
    | (refine wpList_make_full _ rfl _ _ 22 rfl w1.heap.size 27 i0 (.agg #[.float .f64 0, .float .f64 0, .float .f64 0, .float .f64 0, .float .f64 0]) 5 Try.underlying22 hi0 hz0 hz1 .i64 .i64 _ _ n rfl rfl rfl rfl (by rw [hz2]; omega) (by unfold maxLen; omega) (Nat.le_refl _) ?_; intro w2 hown hgr
       have HO : Hid (SO w1.heap.size w2 (.slice (some ⟨w1.heap.size, 0, none⟩) n n) (List.replicate n Stt.zero)) := (by show World.ownsRow _ _ _ _ _ _ _; rw [List.length_replicate, ← made_st]; exact hown)
       have U2 : Hid (Up w1 w2) := RowKit.Below.grown (Below.refl _ _) hgr (Nat.le_refl _) (fun j hj => by cases hj)
       clear hown hgr)
    | ((with_reducible refine upon_copyS HO.out (HS.out.1.up (U1.out.trans U2.out)) ?_); intro w3 HO3 HB3))
  have U3 : Hid (Up w1 w3) := HB3.out.up U2.out (Nat.le_refl _)
  have U4 : Hid (Up w w3) := U1.out.trans U3.out
  have HG : Hid (w.heap.size ≤ w1.heap.size) := RowKit.Below.size U1.out
  have HW : Hid (w1.heap.size < w3.heap.size) := (HO3.out.lt w1.heap.size rfl).2
  have HT : Hid (Up w1 w3) := U3
  clear HO HB3 U2 U1 U3
  generalize w1.heap.size = g at *
  go_loopw [10, 11] (fun vi _ wr => ∃ (z : Int) (k : Nat) (D : List Stt), vi = .int .i64 z ∧ (-2 ≤ z ∧ z ≤ 1022) ∧ Hid (z = (n : Int) - 2 - k ∧ k ≤ n - 1) ∧ Hid (SO g wr (.slice (some ⟨g, 0, none⟩) n n) D) ∧ Hid (∀ j, j < n → n - 1 - k ≤ j → (D.getD j Stt.zero).ab = bkN S d (ab q) (n - 1) (n - 1 - j)) ∧ Hid (Up w wr)) (fun vi _ _ => ((intOf vi) + 1).toNat)
  case atStart =>
    refine ⟨_, 0, _, rfl, ⟨by omega, by omega⟩, ⟨by omega, by omega⟩, HO3, fun j hj hk => ?_, U4⟩
    obtain rfl : j = n - 1 := by omega
    rw [getD_map (by omega), Nat.sub_self]; rfl
  case round =>
    clear HO3 U4 HW HT
    obtain ⟨z, k, D, rfl, ⟨z1, z2⟩, HZ, HO, HA, HU⟩ := hrel
    rename World => wr
    have HSS : Hid (SS wr p n cap S ∧ SV wr p2 m cap2 d) := ⟨HS.out.1.up HU.out, HS.out.2.up HU.out⟩
    by_cases hz : 0 ≤ z
    · obtain ⟨j, rfl⟩ := Int.eq_ofNat_of_zero_le hz
      have hj : j + 2 + k = n := by have := HZ.out.1; omega
      have hDl := HO.out.len
      obtain ⟨b, o, hp, hr⟩ := HSS.out.1.rd (by omega)
      subst hp
      obtain ⟨s, hs⟩ : ∃ s, S j = s := ⟨_, rfl⟩
      have C := hr j (by omega)
      rw [hs] at C
      have HX : Hid (S j = s) := hs
      obtain ⟨b2, o2, hp2, hr2⟩ := HSS.out.2.rd (by have := HL.out.2; omega)
      subst hp2
      obtain ⟨t, ht⟩ : ∃ t, d[j]! = t := ⟨_, rfl⟩
      have ct := hr2 j (by rw [HL.out.1]; have := HL.out.2; omega)
      rw [ht] at ct
      have HT : Hid (d[j]! = t) := ht
      clear hr hr2 hs ht
      obtain ⟨x, v, a, b', c⟩ := s
      obtain ⟨c0, c1, c2, c3, c4⟩ := C
      simp only at c0 c1 c2 c3 c4
      have y1 : (j : Int) < (n : Int) := by omega
      have y2 : (j : Int) < (m : Int) := by have := HL.out.2; omega
      have y3 : (j : Int) + 1 < (n : Int) := by omega
      obtain ⟨g', he, _, _, N5⟩ := HO.out.at (i := j + 1) (by omega)
      simp only [Option.some.injEq, Addr.mk.injEq] at he
      obtain ⟨rfl, _⟩ := he
      obtain ⟨nn, hn⟩ : ∃ nn, D.getD (j + 1) Stt.zero = nn := ⟨_, rfl⟩
      have HN : Hid (D.getD (j + 1) Stt.zero = nn) := hn
      rw [hn] at N5
      clear hn
      obtain ⟨nx, nv, na, nb, nc⟩ := nn
      obtain ⟨m0, m1, m2, m3, m4⟩ := N5
      simp only at m0 m1 m2 m3 m4
      go_wp2_with fail
      refine wp_region_shut 10 [(0, none), (1, none), (2, none), (3, some false), (4, none), (5, none), (6, none), (7, some false), (8, none), (9, some true)] (fun w9 => Up wr w9) (by kernel_rfl) (by decide) rfl (by kernel_rfl) (fun _ _ d _ _ h => by cases d <;> exact h) (Up.drew wr) ?_
      refine OrdS.looks (.slice (some ⟨b, o, none⟩) n cap) (some 32) _ rfl rfl (Or.inl ⟨by kernel_rfl, fun w' hS => ?_⟩) ?_
      · go_simp
      refine OrdS.looks (.int .i64 j) (some 33) _ rfl rfl (Or.inl ⟨by kernel_rfl, fun w' hS => ?_⟩) ?_
      · go_simp
      refine OrdS.looks (.pointer (some ⟨b, o + j * 5, none⟩)) (some 34) _ rfl rfl (Or.inl ⟨by kernel_rfl, fun w' hS => ?_⟩) ?_
      · go_simp
      refine OrdS.reads (.agg #[.float .f64 x, .float .f64 v, .float .f64 a, .float .f64 b', .float .f64 c]) (some 35) _ rfl rfl (Or.inl ⟨by kernel_rfl, fun w' hS => ?_⟩) ?_
      · have l0 := cell_up c0 hS; have l1 := cell_up c1 hS; have l2 := cell_up c2 hS; have l3 := cell_up c3 hS; have l4 := cell_up c4 hS
        go_simp
      refine OrdS.looks (.slice (some ⟨b2, o2, none⟩) m cap2) (some 36) _ rfl rfl (Or.inl ⟨by kernel_rfl, fun w' hS => ?_⟩) ?_
      · go_simp
      refine OrdS.looks (.int .i64 j) (some 37) _ rfl rfl (Or.inl ⟨by kernel_rfl, fun w' hS => ?_⟩) ?_
      · go_simp
      refine OrdS.looks (.pointer (some ⟨b2, o2 + j, none⟩)) (some 38) _ rfl rfl (Or.inl ⟨by kernel_rfl, fun w' hS => ?_⟩) ?_
      · go_simp
      refine OrdS.reads (.float .f64 t) (some 39) _ rfl rfl (Or.inl ⟨by kernel_rfl, fun w' hS => ?_⟩) ?_
      · have l0 := cell_up ct hS
        go_simp
      refine OrdS.looks (.float .f64 q) (some 40) _ rfl rfl (Or.inl ⟨by kernel_rfl, fun w' hS => ?_⟩) ?_
      · go_simp
      simp only [Act.put, List.setIfInBounds_toArray, List.set_cons_succ, List.set_cons_zero]
      refine OrdS.does ?_
      refine wpOp_call (f := 30) rfl rfl rfl #[.agg #[.float .f64 x, .float .f64 v, .float .f64 a, .float .f64 b', .float .f64 c], .float .f64 t, .float .f64 q] (by kernel_rfl) (eg30 _ _) ?_
      refine (t30 ⟨x, v, a, b', c⟩ t q _).mono ?_
      rintro e w5 ⟨fg, cb, rfl, HC, HEg, HU5⟩
      have HU6 : Hid (Up wr w5) := (Up.drew wr).trans HU5.out
      refine ⟨_, rfl, HU6.out, ?_⟩
      refine OrdS.ends ?_
      simp only [List.drop_succ_cons, List.drop_zero]
      have e0 : ((j : Int) + 1).toNat = j + 1 := by omega
      have p0 : (0 : Int) ≤ (j : Int) + 1 := by omega
      have HO5 : Hid (SO g wr (.slice (some ⟨g, 0, none⟩) n n) D) := HO
      replace m0 := up_cell HU6.out m0
      replace m1 := up_cell HU6.out m1
      replace m2 := up_cell HU6.out m2
      replace m3 := up_cell HU6.out m3
      replace m4 := up_cell HU6.out m4
      have eg := HEg.out
      have CC : Hid (Calls Try.prog fg (#[.agg #[.float .f64 nx, .float .f64 nv, .float .f64 na, .float .f64 nb, .float .f64 nc]] ++ cb) w5 (SR w5 (stepF (Stt.ab ⟨x, v, a, b', c⟩) (ab t) (ab q) (Stt.ab ⟨nx, nv, na, nb, nc⟩)))) := HC.out ⟨nx, nv, na, nb, nc⟩ w5 (Up.refl _)
      clear HC
      go_wp2_with fail
      with_reducible refine CC.out.mono ?_
      rintro e w6 ⟨rx, rv, ra, rb, rc, rfl, HR, HU7⟩
      clear CC eg
      have HO6 : Hid (SO g w6 (.slice (some ⟨g, 0, none⟩) n n) D) := HO5.out.up (HU6.out.trans HU7.out)
      have HU8 : Hid (Up w w6) := HU.out.trans (HU6.out.trans HU7.out)
      obtain ⟨g9, he9, _, _, Q5⟩ := HO6.out.at (i := j) (by omega)
      simp only [Option.some.injEq, Addr.mk.injEq] at he9
      obtain ⟨rfl, _⟩ := he9
      obtain ⟨a0, a1, a2, a3, a4⟩ := Q5
      have f0 := HO6.out.frz (j * 5)
      have f1 := HO6.out.frz (j * 5 + 1)
      have f2 := HO6.out.frz (j * 5 + 2)
      have f3 := HO6.out.frz (j * 5 + 3)
      have f4 := HO6.out.frz (j * 5 + 4)
      clear m0 m1 m2 m3 m4 HO5 HO HU HU6 HU7
      obtain ⟨P1, P2⟩ := HO6.out.put (i := j) (by omega) ⟨rx, rv, ra, rb, rc⟩
      have P1' : Hid (SO g (((((w6.setCell ⟨g, j * 5, none⟩ (.float .f64 rx)).setCell ⟨g, j * 5 + 1, none⟩ (.float .f64 rv)).setCell ⟨g, j * 5 + 2, none⟩ (.float .f64 ra)).setCell ⟨g, j * 5 + 3, none⟩ (.float .f64 rb)).setCell ⟨g, j * 5 + 4, none⟩ (.float .f64 rc)) (.slice (some ⟨g, 0, none⟩) n n) (D.set j ⟨rx, rv, ra, rb, rc⟩)) := P1
      have P2' : Hid (But g w6 (((((w6.setCell ⟨g, j * 5, none⟩ (.float .f64 rx)).setCell ⟨g, j * 5 + 1, none⟩ (.float .f64 rv)).setCell ⟨g, j * 5 + 2, none⟩ (.float .f64 ra)).setCell ⟨g, j * 5 + 3, none⟩ (.float .f64 rb)).setCell ⟨g, j * 5 + 4, none⟩ (.float .f64 rc))) := P2
      clear P1 P2
      go_wp2
      go_roundw
      case rel =>
        refine ⟨(j : Int) - 1, k + 1, _, rfl, ⟨by omega, by omega⟩, ⟨by omega, by omega⟩, P1', fun i hi hk => ?_, P2'.out.up HU8.out HG.out⟩
        by_cases e : i = j
        · subst e
          rw [getD_set_eq (by omega)]
          obtain ⟨e1, e2, e3, e4, e5⟩ := HR.out
          have hN := HA.out (i + 1) (by omega) (by omega)
          rw [HN.out] at hN
          rw [show n - 1 - i = (n - 1 - (i + 1)) + 1 by omega]
          unfold bkN
          rw [← hN, show n - 1 - (n - 1 - (i + 1) + 1) = i by omega, HX.out, HT.out]
          show S5.mk (ab rx) (ab rv) (ab ra) (ab rb) (ab rc) = _
          rw [e1, e2, e3, e4, e5]
        · rw [getD_set_ne (fun q => e q.symm)]
          exact HA.out i hi (by omega)
      case measure => simp [intOf]
    · have hk : n - 1 - k = 0 := by have := HZ.out.1; omega
      go_wp2
      go_ret2
      have hl := HO.out.len
      refine ⟨some ⟨g, 0, none⟩, n, D, ?_, ?_, ?_, ?_, HU⟩
      · rw [HE.out, hl]; rfl
      · show _ = _; rw [HE.out, if_pos rfl]; exact hl
      · rw [hl]; exact HO.out.base HG.out
      · intro j hj; exact HA.out j (by omega) (by omega)
theorem t11 {w : World} {p p2 : Option Addr} {n cap m cap2 : Nat} {S : Nat → Stt} {d : Array Nat} (q : Nat) (h : SS w p n cap S) (h2 : SV w p2 m cap2 d) : Calls Try.prog 11 #[.slice p n cap, .slice p2 m cap2, .float .f64 q] w (BaR w n S d (ab q)) := by
  by_cases hE : bakE n S d (ab q) = 0
  · exact t11ok q h h2 hE
  · exact t11bad q h h2 hE
end Go.Proofs.Ytcgbmcnefolgcaa

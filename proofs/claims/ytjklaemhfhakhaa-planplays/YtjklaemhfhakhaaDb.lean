/- Until. -/
import Derived.Test.YtjklaemhfhakhaaDa
import Derived.Deep.DeepCutAuto
import Derived.Test.YtjklaemhfhakhaaRg
namespace Go.Proofs.Ytjklaemhfhakhaa
open Go.ChangeShapes Go.WideShapes Go.ChangeAt Go.RowKit

theorem Kp.grown {w w' : World} {row : Option Nat} (hg : w.grownBy w' row) : Kp (fun b => some b ≠ row) w w' := ⟨hg.os, hg.tape, hg.output, hg.size, fun k hk hl => hg.block k hl hk⟩
theorem Kept.grow {n : Nat} {w w1 w2 : World} {L L1 : Ly} (h : Kept n w w1 L L1) {row : Option Nat} (hg : w1.grownBy w2 row) (hr : ∀ k, row = some k → w.heap.size ≤ k) : Kept n w w2 L L1 :=
  ⟨h.ok, h.bp, h.own, ⟨hg.os.trans h.kp.os, hg.tape.trans h.kp.tape, hg.output.trans h.kp.output, Nat.le_trans h.kp.size hg.size, fun b hb hl => (hg.block b (Nat.lt_of_lt_of_le hl h.kp.size) (fun e => by have := hr b e.symm; omega)).trans (h.kp.block b hb hl)⟩⟩
def lenOf : Value → Nat
  | .slice _ n _ => n
  | _ => 0
/-- What the loop keeps. -/
structure UI (w : World) (L : Ly) (n : Nat) (T : Int) (p0 : Pl) (D : List Sl) (p : Pl) (k : Nat) (v : Value) (wr : World) : Prop where
  lay : ∃ L', PW wr L' n p ∧ Kept n w wr L L'
  pb : PB n p
  own : SO w.heap.size wr v D
  eq : untilN n T 65536 p0 = (D ++ (untilN n T k p).1, (untilN n T k p).2)
/-- What Until leaves. -/
def UntR (w : World) (L : Ly) (n : Nat) (T : Int) (p0 : Pl) (e : Ending) (w' : World) : Prop := ∃ pp c L', e = .returned (.slice pp (untilN n T 65536 p0).1.length c) ∧ Hid (SO w.heap.size w' (.slice pp (untilN n T 65536 p0).1.length c) (untilN n T 65536 p0).1) ∧ Hid (PW w' L' n (untilN n T 65536 p0).2) ∧ Hid (PB n (untilN n T 65536 p0).2) ∧ Hid (Kept n w w' L L')
theorem UI.done {w : World} {L : Ly} {n : Nat} {T : Int} {p0 : Pl} {D : List Sl} {p : Pl} {k : Nat} {pp : Option Addr} {c : Nat} {wr : World} (h : UI w L n T p0 D p k (.slice pp D.length c) wr) (he : untilN n T k p = ([], p)) : UntR w L n T p0 (.returned (.slice pp D.length c)) wr := by
  obtain ⟨L', h1, h2⟩ := h.lay
  have e := h.eq
  rw [he] at e
  simp only [List.append_nil] at e
  refine ⟨pp, c, L', ?_, ?_, ?_, ?_, h2⟩
  · rw [e]
  · rw [e]; exact h.own
  · rw [e]; exact h1
  · rw [e]; exact h.pb
set_option maxRecDepth 200000 in
set_option maxHeartbeats 8000000 in
theorem t18 {w : World} {L : Ly} {n : Nat} {p : Pl} (h : PW w L n p) (hL : L.Ok n) (hb : PB n p) (hn : n ≤ 256) (t0 : Int) (hlo : -9223372036854775808 ≤ t0) : Calls Try.prog 18 #[.pointer (some ⟨L.bp, 0, none⟩), .int .i64 t0] w (UntR w L n (min t0 1152921504606846976) p) := by
  have H0 : Hid (PW w L n p) := h
  have HL : Hid (L.Ok n) := hL
  have HO : Hid (∀ b, L.Own n b → b < w.heap.size) := fun b q => h.own_lt q
  obtain ⟨T, hT⟩ : ∃ T, (if (1152921504606846976 : Int) < t0 then (1152921504606846976 : Int) else t0) = T := ⟨_, rfl⟩
  have hT2 : min t0 1152921504606846976 = T := by rw [← hT]; split <;> omega
  have hT3 : T ≤ 1152921504606846976 := by omega
  rw [hT2]
  have HI0 : Hid (UI w L n T p [] p 65536 (.slice none 0 0) w) := ⟨⟨L, h, Kept.of_up hL (Up.refl _)⟩, hb, SO.nil _ _, rfl⟩
  clear h hL hb hT2
  go_enter Try.func18, Try.ntmps18
  go_wp2_with fail
  clear hT
  go_loopw [5, 6, 7] (fun v5 _ _ wr => ∃ (k ln cap : Nat) (pp : Option Addr) (D : List Sl) (q : Pl), v5 = .slice pp ln cap ∧ ln + k = 65536 ∧ Hid (D.length = ln ∧ UI w L n T p D q k (.slice pp ln cap) wr)) (fun v5 _ _ _ => 65536 - lenOf v5)
  case atStart => exact ⟨65536, 0, 0, none, [], p, rfl, rfl, rfl, HI0.out⟩
  case round =>
    clear HI0
    obtain ⟨k, ln, cap, pp, D, q, rfl, hk, HI⟩ := hrel
    rename World => wr
    have HN : Hid (D.length = ln) := HI.out.1
    replace HI : Hid (UI w L n T p D q k (.slice pp ln cap) wr) := HI.out.2
    obtain ⟨L1, HP1, HK1⟩ := HI.out.lay
    have HP : Hid (PW wr L1 n q) := HP1
    have HK : Hid (Kept n w wr L L1) := HK1
    have y0 := HP1.p0
    rw [HK1.bp] at y0
    clear HP1 HK1
    generalize hqn : q.now = now at *
    have HQ : Hid (q.now = now) := hqn
    clear hqn
    by_cases c1 : now < T
    · by_cases c2 : ln < 65536
      · have c3 : (ln : Int) < 65536 := by omega
        obtain ⟨k, rfl⟩ : ∃ k', k = k' + 1 := ⟨k - 1, by omega⟩
        have HKN : Hid (ln + (k + 1) = 65536) := hk
        clear hk
        have z0 := HP.out.fp 0
        rw [HK.out.bp] at z0
        obtain ⟨⟨⟨j1, j2, j3, j4, j5⟩, f⟩, hr⟩ : ∃ r, runN q.J q.now n = r := ⟨_, rfl⟩
        have HR : Hid (runN q.J q.now n = (⟨j1, j2, j3, j4, j5⟩, f)) := hr
        clear hr
        have C1 : ∀ W, Hid (PW W L1 n q → Calls Try.prog 37 #[.pointer (some ⟨L.bp, 0, none⟩)] W (VU W (.tuple #[.agg #[.int .i64 j1, .int .i64 j2, .int .i64 j3, .int .i64 j4, .int .i64 j5], .int .i64 f]))) := by
          intro W hW
          have := t37 hW HI.out.pb hn
          rw [HR.out, HK.out.bp] at this
          exact this
        have HLP : Hid (L.bp < wr.heap.size) := by have := HP.out.lp; rw [HK.out.bp] at this; exact this
        by_cases hf : T ≤ f
        · go_wp2_with (go_at_call 37; (with_reducible refine ((C1 _).out HP.out).mono ?_); rintro e w1 ⟨rfl, HU1⟩; (have HP2 : Hid (PW (w1.alloc (.cells #[.int .i64 j1, .int .i64 j2, .int .i64 j3, .int .i64 j4, .int .i64 j5] 88)) L1 n q) := HP.out.up (HU1.out.trans (Up.alloc _ _))); (have x0 := HP2.out.p0); (have x1 := HP2.out.fp 0); rw [HK.out.bp] at x0 x1)
          go_ret
          have hu : Up wr (w1.alloc (.cells #[.int .i64 j1, .int .i64 j2, .int .i64 j3, .int .i64 j4, .int .i64 j5] 88)) := HU1.out.trans (Up.alloc _ _)
          generalize w1.alloc (.cells #[.int .i64 j1, .int .i64 j2, .int .i64 j3, .int .i64 j4, .int .i64 j5] 88) = w2 at *
          have HP3 := HP2.out.setNow HK.out.ok T
          rw [HK.out.bp] at HP3
          have HK3 := (HK.out.trans (Kept.of_up HK.out.ok hu)).set (g := L.bp) (o := 0) (by rw [← HK.out.bp]; exact Or.inl rfl) (.int .i64 T) HK.out.ok rfl (fun _ q => q)
          have hno : ∀ r, (Value.slice pp ln cap).ownBlock = some r → r ≠ L.bp := fun r hr e => by
            have h1 := (HI.out.own.lt r hr).1
            have h2 := HO.out L.bp (Or.inl rfl)
            omega
          have HS3 : SO w.heap.size (w2.setCell ⟨L.bp, 0, none⟩ (.int .i64 T)) (.slice pp ln cap) D := (HI.out.own.up hu).kp (F := fun b => b ≠ L.bp) (Kp.set _ _ (fun q => q rfl) _) hno
          have he := until_far (n := n) (tick := T) (k := k) (p := q) (by rw [HQ.out]; exact c1) (by rw [HR.out]; exact hf)
          have hb0 := HI.out.pb.now
          have hq0 := HQ.out
          have e := HI.out.eq
          rw [he] at e
          simp only [List.append_nil] at e
          have hl := HN.out
          subst hl
          refine ⟨pp, cap, L1, ?_, ?_, ?_, ?_, HK3⟩
          · show Ending.returned (Value.slice pp D.length cap) = _
            rw [e]
          · rw [e]; exact HS3
          · rw [e]; exact HP3
          · rw [e]; exact HI.out.pb.at (by omega) hT3
        · have hf1 : f < T := by omega
          have n0 : 0 < n := by
            rcases Nat.eq_zero_or_pos n with h0 | h0
            · subst h0
              have := HR.out
              simp only [runN, Prod.mk.injEq] at this
              unfold farT at this
              omega
            · exact h0
          obtain ⟨m, f', hr1, hr2⟩ := HI.out.pb.runs n0
          rw [HR.out] at hr1
          simp only [Prod.mk.injEq] at hr1
          obtain ⟨hj, rfl⟩ := hr1
          have hm := hr2.lt
          have hjm : j1 = (m : Int) := by have : (⟨j1, j2, j3, j4, j5⟩ : Jb).task = m := by rw [hj]; rfl
                                          exact this
          have HJ1 : Hid (j1 = (m : Int)) := hjm
          clear hjm
          have HJM : Hid (q.J m = ⟨j1, j2, j3, j4, j5⟩) := hj.symm
          have HRS : Hid (Runs n q.J q.now m f) := hr2
          obtain ⟨f1, f2, f3, f4⟩ := hr2.f_le HI.out.pb
          obtain ⟨k1, k2⟩ := HI.out.pb.left hr2.lt
          obtain ⟨k3, k4⟩ := hr2.ends HI.out.pb
          rw [← hj] at k1 k2 k3 k4
          simp only at k1 k2 k3 k4
          obtain ⟨t1, ht1⟩ : ∃ t1, endN q.J ⟨j1, j2, j3, j4, j5⟩ (f + j4) n = t1 := ⟨_, rfl⟩
          have HT1 : Hid (endN q.J ⟨j1, j2, j3, j4, j5⟩ (f + j4) n = t1) := ht1
          rw [ht1] at k3 k4
          obtain ⟨c, hc⟩ : ∃ c, min t1 T = c := ⟨_, rfl⟩
          have HC : Hid (min t1 T = c) := hc
          have g1 : f < c := by omega
          have g2 : c ≤ T := by omega
          have HSTR : Hid (Str n q m f c) := by
            have := cut_str (tick := T) HI.out.pb hr2 hf1
            rw [← hj] at this
            simp only at this
            rw [ht1, hc] at this
            exact this
          have HST : Hid (untilN n T (k + 1) q = (⟨m, f, c, decide (j3 < c)⟩ :: (untilN n T k (q.go m (c - f) c)).1, (untilN n T k (q.go m (c - f) c)).2)) := by
            have := until_step (n := n) (tick := T) (k := k) (p := q) (m := m) (f := f) (by rw [HQ.out]; exact c1) (by rw [HR.out, HJM.out]) hf1
            rw [HJM.out] at this
            simp only at this
            rw [HT1.out, HC.out] at this
            exact this
          have C2 : ∀ W, Hid (PW W L1 n q → Calls Try.prog 38 #[.pointer (some ⟨L.bp, 0, none⟩),   .agg #[.int .i64 j1, .int .i64 j2, .int .i64 j3, .int .i64 j4, .int .i64 j5], .int .i64 f] W (VU W (.int .i64 t1))) := by
            intro W hW
            have := t38 hW HI.out.pb hn ⟨j1, j2, j3, j4, j5⟩ f (by omega) (by show 0 ≤ j4 ∧ j4 ≤ _; omega)
            rw [HT1.out, HK.out.bp] at this
            exact this
          have C3 : ∀ W, Hid (PW W L1 n q → Calls Try.prog 39 #[.pointer (some ⟨L.bp, 0, none⟩),   .agg #[.int .i64 j1, .int .i64 j2, .int .i64 j3, .int .i64 j4, .int .i64 j5], .int .i64 f, .int .i64 c] W (DoR W L1 n (q.go m (c - f) c) (.agg #[.int .i64 m, .int .i64 f, .int .i64 c, .bool (decide (j3 < c))]))) := by
            intro W hW
            have := t39 hW HK.out.ok HI.out.pb hm (j := ⟨j1, j2, j3, j4, j5⟩) HJ1.out f1 (show f ≤ c by omega) (by omega)
            rw [HK.out.bp] at this
            exact this
          have HBB : Hid (0 ≤ f ∧ f < c ∧ c ≤ T) := ⟨f1, g1, g2⟩
          clear hj hr2 ht1 hc n0 f1 f2 f3 f4 k1 k2 k3 k4 g1 g2 hf
          have HC2 : Hid (ln < 65536) := c2
          go_wp2_with fail
          clear c2 c3
          with_reducible refine ((C1 _).out HP.out).mono ?_
          rintro e w1 ⟨rfl, HU1⟩
          go_wp2_with fail
          have HPW : Hid (PW (w1.alloc (.cells #[.int .i64 j1, .int .i64 j2, .int .i64 j3, .int .i64 j4, .int .i64 j5] 88)) L1 n q) := HP.out.up (HU1.out.trans (Up.alloc _ _))
          have HJ : Hid (JobAt (w1.alloc (.cells #[.int .i64 j1, .int .i64 j2, .int .i64 j3, .int .i64 j4, .int .i64 j5] 88)) w1.heap.size ⟨j1, j2, j3, j4, j5⟩) := JobAt.of (heap_alloc_last _ _)
          have HUW : Hid (Up wr (w1.alloc (.cells #[.int .i64 j1, .int .i64 j2, .int .i64 j3, .int .i64 j4, .int .i64 j5] 88))) := HU1.out.trans (Up.alloc _ _)
          have HGN : Hid (¬ L1.Own n w1.heap.size) := fun q => by have h1 := HO.out _ (HK.out.own _ q); have h2 := HU1.out.size; have h3 := HK.out.kp.size; omega
          clear HU1 y0 z0
          generalize w1.alloc (.cells #[.int .i64 j1, .int .i64 j2, .int .i64 j3, .int .i64 j4, .int .i64 j5] 88) = W at *
          generalize w1.heap.size = G at *
          clear w1
          refine wp_region_shut 11 [(0, none), (1, none), (2, some false), (3, none), (4, none), (5, some false), (6, none), (8, none), (7, some true), (9, none), (10, some true)] (fun w9 => JobAt w9 G ⟨j1, j2, j3, j4, j5⟩) (by kernel_rfl) (by decide) rfl (by kernel_rfl) (fun _ _ d _ _ h => by cases d <;> exact h) (HJ.out.up (Up.drewN _ 1)) ?_
          refine OrdS.looks (.slice pp ln cap) (some 35) _ rfl rfl (Or.inl ⟨by kernel_rfl, fun w' hS => ?_⟩) ?_
          · go_simp
          refine OrdS.looks (.pointer (some ⟨L.bp, 0, none⟩)) (some 36) _ rfl rfl (Or.inl ⟨by kernel_rfl, fun w' hS => ?_⟩) ?_
          · go_simp
          refine OrdS.reads (.agg #[.int .i64 j1, .int .i64 j2, .int .i64 j3, .int .i64 j4, .int .i64 j5]) (some 37) _ rfl rfl (Or.inl ⟨by kernel_rfl, fun w' hS => ?_⟩) ?_
          · (obtain ⟨z0, z1, z2, z3, z4, -⟩ := hS; simp only at z0 z1 z2 z3 z4)
            go_simp
          refine OrdS.looks (.int .i64 f) (some 38) _ rfl rfl (Or.inl ⟨by kernel_rfl, fun w' hS => ?_⟩) ?_
          · go_simp
          refine OrdS.looks (.pointer (some ⟨L.bp, 0, none⟩)) (some 39) _ rfl rfl (Or.inl ⟨by kernel_rfl, fun w' hS => ?_⟩) ?_
          · go_simp
          refine OrdS.reads (.agg #[.int .i64 j1, .int .i64 j2, .int .i64 j3, .int .i64 j4, .int .i64 j5]) (some 40) _ rfl rfl (Or.inl ⟨by kernel_rfl, fun w' hS => ?_⟩) ?_
          · (obtain ⟨z0, z1, z2, z3, z4, -⟩ := hS; simp only at z0 z1 z2 z3 z4)
            go_simp
          refine OrdS.looks (.int .i64 f) (some 41) _ rfl rfl (Or.inl ⟨by kernel_rfl, fun w' hS => ?_⟩) ?_
          · go_simp
          refine OrdS.looks (.int .i64 T) (some 43) _ rfl rfl (Or.inl ⟨by kernel_rfl, fun w' hS => ?_⟩) ?_
          · go_simp
          simp only [Act.put, List.setIfInBounds_toArray, List.set_cons_succ, List.set_cons_zero]
          refine OrdS.does ?_
          refine wpOp_callG (f := 38) (some 42) rfl rfl (by kernel_rfl) rfl #[.pointer (some ⟨L.bp, 0, none⟩), .agg #[.int .i64 j1, .int .i64 j2, .int .i64 j3, .int .i64 j4, .int .i64 j5], .int .i64 f] (by kernel_rfl) (enters Try.func38 (by kernel_rfl) (by kernel_rfl) _ _) ?_
          refine ((C2 _).out (HPW.out.up (Up.drewN _ 1))).mono ?_
          rintro e w3 ⟨rfl, HU3⟩
          refine ⟨_, rfl, HJ.out.up ((Up.drewN _ 1).trans HU3.out), ?_⟩
          simp only [Act.put, List.setIfInBounds_toArray, List.set_cons_succ, List.set_cons_zero]
          refine OrdS.looks (.int .i64 c) (some 44) _ rfl rfl (Or.inl ⟨by kernel_rfl, fun w' hS => ?_⟩) ?_
          · have q := HC.out
            go_simp
            (split <;> omega)
          simp only [Act.put, List.setIfInBounds_toArray, List.set_cons_succ, List.set_cons_zero]
          refine OrdS.does ?_
          refine wpOp_callG (f := 39) (some 45) rfl rfl (by kernel_rfl) rfl #[.pointer (some ⟨L.bp, 0, none⟩), .agg #[.int .i64 j1, .int .i64 j2, .int .i64 j3, .int .i64 j4, .int .i64 j5], .int .i64 f, .int .i64 c] (by kernel_rfl) (enters Try.func39 (by kernel_rfl) (by kernel_rfl) _ _) ?_
          refine ((C3 _).out (HPW.out.up ((Up.drewN _ 1).trans HU3.out))).mono ?_
          rintro e w4 ⟨rfl, L2, HP4, HK4⟩
          refine ⟨_, rfl, (HJ.out.up ((Up.drewN _ 1).trans HU3.out)).kp HK4.out.kp HGN.out, ?_⟩
          simp only [Act.put, List.setIfInBounds_toArray, List.set_cons_succ, List.set_cons_zero]
          refine OrdS.ends ?_
          simp only [List.drop_succ_cons, List.drop_zero]
          have HU2 : Hid (Up wr w3) := (HUW.out.trans (Up.drewN _ 1)).trans HU3.out
          have HS4 : Hid (SO w.heap.size w4 (.slice pp ln cap) D) := (HI.out.own.up HU2.out).kp HK4.out.kp (fun r hr q => by have h1 := (HI.out.own.lt r hr).1; have h2 := HO.out r (HK.out.own r q); omega)
          have HZ4 : Hid (w.heap.size ≤ w4.heap.size) := Nat.le_trans HK.out.kp.size (Nat.le_trans HU2.out.size HK4.out.kp.size)
          go_wp2_with (at_builtin; (with_reducible refine wpList_push (z := ⟨m, f, c, decide (j3 < c)⟩) rfl _ _ rfl pp ln cap D rfl rfl HS4.out HZ4.out (by have := HC2.out; omega) ?_); intro p' c' w5 HS5 HG5 HB5)
          have hrow : ∀ r, (Value.slice pp ln cap).ownBlock = some r → w.heap.size ≤ r := fun r hr => (HI.out.own.lt r hr).1
          have hK4 : Kept n w w4 L L2 := (HK.out.trans (Kept.of_up HK.out.ok HU2.out)).trans HK4.out
          have hK5 : Kept n w w5 L L2 := (hK4.trans (Kept.of_up hK4.ok (Up.alloc w4 (.cells #[.int .i64 m, .int .i64 f, .int .i64 c, .bool (decide (j3 < c))] 42)))).grow HG5.out hrow
          have hP5 : PW w5 L2 n (q.go m (c - f) c) := (HP4.out.up (Up.alloc w4 (.cells #[.int .i64 m, .int .i64 f, .int .i64 c, .bool (decide (j3 < c))] 42))).kp (Kp.grown HG5.out) (fun b hb e => by
            have h1 := hrow b e.symm
            have h2 := HO.out b (hK4.own b hb)
            omega)
          have hq := HBB.out
          refine ⟨⟨k, ln + 1, c', p', D ++ [⟨m, f, c, decide (j3 < c)⟩], q.go m (c - f) c, rfl, by have := HKN.out; omega, ?_⟩, ?_⟩
          · refine ⟨?_, ⟨L2, hP5, hK5⟩, HI.out.pb.go HSTR.out (by omega), HS5.out, ?_⟩
            · have := HN.out
              simp only [List.length_append, List.length_cons, List.length_nil]
              omega
            · have e := HI.out.eq
              rw [HST.out] at e
              rw [e, List.append_assoc]
              rfl
          · have := HC2.out
            show 65536 - (ln + 1) < 65536 - ln
            omega
      · have c3 : ¬ (ln : Int) < 65536 := by omega
        go_wp2
        go_ret
        have hk0 : k = 0 := by omega
        subst hk0
        have := HN.out
        subst this
        exact UI.done HI.out rfl
    · have c3 : ¬ (now < T) := c1
      go_wp2
      go_ret
      have := HN.out
      subst this
      exact UI.done HI.out (until_out (by rw [HQ.out]; omega))
end Go.Proofs.Ytjklaemhfhakhaa

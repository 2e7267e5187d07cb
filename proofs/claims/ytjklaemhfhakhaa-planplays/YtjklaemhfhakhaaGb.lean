/- PlanInTime: the walk. -/
import Derived.Test.YtjklaemhfhakhaaMf
import Derived.Test.YtjklaemhfhakhaaGa
import Derived.Test.YtjklaemhfhakhaaXa
namespace Go.Proofs.Ytjklaemhfhakhaa
open Go.ChangeShapes Go.WideShapes Go.ChangeAt Go.RowKit

theorem MayT.nat {e l : Int} (h : MayT e l) : ((e.toNat : Nat) : Int) = e ∧ ((l.toNat : Nat) : Int) = l ∧ 1 ≤ e.toNat ∧ e.toNat ≤ 1099511627776 ∧ l.toNat ≤ 1099511627776 := by
  obtain ⟨a, b, c⟩ := h
  omega
/-- Load of a plan that was made just now. -/
theorem load_new {w : World} {L : Ly} {n : Nat} {T : Nat → Tk} (h : PW w L n (newP T)) (hm : ∀ i, i < n → MayT (T i).e (T i).l) (hn : n ≤ 256) : Calls Try.prog 13 #[.pointer (some ⟨L.bp, 0, none⟩)] w (VU w (loadV (loadN (fun i => (T i).e.toNat) (fun i => (T i).l.toNat) n))) :=
  t13 h (PB.newP hm) _ _ (fun i hi => (hm i hi).nat) hn
theorem light_new {n : Nat} {T : Nat → Tk} (hm : ∀ i, i < n → MayT (T i).e (T i).l) {a d : Nat} (h : loadN (fun i => (T i).e.toNat) (fun i => (T i).l.toNat) n = some (a, d)) : 1 ≤ d ∧ (a ≤ d → Light n (fun i => (T i).e) (fun i => (T i).l)) ∧ (d < a → denQ (fun i => (T i).e) n < numQ (fun i => (T i).e) (fun i => (T i).l) n) := by
  have hE : ∀ i, i < n → 1 ≤ (T i).e.toNat := fun i hi => (hm i hi).nat.2.2.1
  obtain ⟨k1, k2⟩ := light_of hE h
  have e1 : ∀ k, k ≤ n → denQ (fun i => (((T i).e.toNat : Nat) : Int)) k = denQ (fun i => (T i).e) k := by
    intro k
    induction k with
    | zero => intro _; rfl
    | succ k ih =>
      intro hk
      show denQ _ k * (((T k).e.toNat : Nat) : Int) = denQ _ k * (T k).e
      rw [ih (by omega), (hm k (by omega)).nat.1]
  have e2 : ∀ k, k ≤ n → numQ (fun i => (((T i).e.toNat : Nat) : Int)) (fun i => (((T i).l.toNat : Nat) : Int)) k = numQ (fun i => (T i).e) (fun i => (T i).l) k := by
    intro k
    induction k with
    | zero => intro _; rfl
    | succ k ih =>
      intro hk
      show numQ _ _ k * (((T k).e.toNat : Nat) : Int) + (((T k).l.toNat : Nat) : Int) * denQ _ k = numQ _ _ k * (T k).e + (T k).l * denQ _ k
      rw [ih (by omega), e1 k (by omega), (hm k (by omega)).nat.1, (hm k (by omega)).nat.2.1]
  refine ⟨(loadN_frac n hE h).1, fun q => ?_, fun q => ?_⟩
  · have := k1 q
    unfold Light at *
    rw [e1 n (Nat.le_refl _), e2 n (Nat.le_refl _)] at this
    exact this
  · have := k2 q
    rw [e1 n (Nat.le_refl _), e2 n (Nat.le_refl _)] at this
    exact this
theorem t10m {w : World} {p : Option Addr} {n cap : Nat} {T : Nat → Tk} (h : TL w p n cap T) (hn : n ≤ 256) (hm : ∀ i, i < n → MayT (T i).e (T i).l) : Calls Try.prog 10 #[.slice p n cap] w (fun e w' => ∃ L, e = .returned (.tuple #[.pointer (some ⟨L.bp, 0, none⟩), .int .i64 0]) ∧ Hid (PU w' L n (newP T)) ∧ Hid (∀ b, L.Own n b → w.heap.size ≤ b) ∧ Hid (Up w w')) := by
  refine (t10 h hn).mono ?_
  rintro e w' (⟨_, L, h1, h2, h3, h4, h5⟩ | ⟨h1, _⟩)
  · exact ⟨L, h1, ⟨h2, h3, PB.newP hm⟩, h4, h5⟩
  · exact absurd hm h1
theorem until_len (n : Nat) (tick : Int) : ∀ k p, (untilN n tick k p).1.length ≤ k
  | 0, p => Nat.le_refl _
  | k + 1, p => by
    rw [untilN]
    split
    · split
      · exact Nat.zero_le _
      · have := until_len n tick k (p.go (runN p.J p.now n).1.task.toNat (min (endN p.J (runN p.J p.now n).1 ((runN p.J p.now n).2 + (runN p.J p.now n).1.left) n) tick - (runN p.J p.now n).2) (min (endN p.J (runN p.J p.now n).1 ((runN p.J p.now n).2 + (runN p.J p.now n).1.left) n) tick))
        simp only [List.length_cons]
        omega
    · exact Nat.zero_le _
theorem LS.mono {n : Nat} {E L R : Nat → Int} {M B B' : Int} {p : Pl} (h : LS n E L R M B p) (hB : B ≤ B') : LS n E L R M B' p := ⟨h.fits, h.feas, h.pb, h.most, Int.le_trans h.now hB⟩
/-- What the loop keeps. -/
structure IT (w : World) (n : Nat) (T : Nat → Tk) (k : Nat) (bp : Nat) (wr : World) : Prop where
  ex : ∃ L p, PU wr L n p ∧ L.bp = bp ∧ (∀ b, L.Own n b → w.heap.size ≤ b) ∧ LS n (fun i => (T i).e) (fun i => (T i).l) (fun i => (T i).r) 40 (100 * k) p
  up : Up w wr
set_option maxRecDepth 20000 in
set_option maxHeartbeats 8000000 in
theorem t5 {w : World} {p : Option Addr} {n cap : Nat} {T0 : Nat → Tk} (h : TL w p n cap T0) (hn : n ≤ 1152921504606846976) {ps : Option Addr} {ns cs : Nat} {z : Nat → Int} (hs : IL .i16 w ps ns cs z) : Calls Try.prog 5 #[.slice p n cap, .slice ps ns cs] w (VU w (.bool true)) := by
  have HTL : Hid (TL w p n cap T0) := h
  have HSL : Hid (IL .i16 w ps ns cs z) := hs
  have HN0 : Hid (n ≤ 1152921504606846976) := hn
  have C20 : Hid (Calls Try.prog 20 #[.slice p n cap, .int .i64 40] w (FewR w n 40)) := t20 h hn (by omega) (by omega)
  obtain ⟨N, hN⟩ : ∃ N, min n 12 = N := ⟨_, rfl⟩
  have N12 : N ≤ 12 := by omega
  have HNN : Hid (N ≤ 12) := N12
  unfold FewR at C20
  rw [hN] at C20
  have hnsz := hs.few
  clear h hs hn hN hnsz
  go_enter Try.func5, Try.ntmps5
  go_upto_region 5 with (first
    | (go_at_call 20; (with_reducible refine C20.out.mono ?_); rintro e w1 ⟨q, c, T, rfl, HT, HMay, HU1⟩)
    | (go_at_call 10; (with_reducible refine (t10m HT.out (Nat.le_trans HNN.out (by omega)) (fun i hi => (HMay.out i hi).1)).mono ?_); rintro e w2 ⟨L, rfl, HP, HOwn, HU2⟩))
  have HU2w : Hid (Up w w2) := HU1.out.trans HU2.out
  have HOw : Hid (∀ b, L.Own N b → w.heap.size ≤ b) := fun b qb => Nat.le_trans HU1.out.size (HOwn.out b qb)
  have HMy : Hid (∀ i, i < N → MayT (T i).e (T i).l) := fun i hi => (HMay.out i hi).1
  obtain ⟨lo, hlo⟩ : ∃ lo, loadN (fun i => (T i).e.toNat) (fun i => (T i).l.toNat) N = lo := ⟨_, rfl⟩
  have HLO : Hid (loadN (fun i => (T i).e.toNat) (fun i => (T i).l.toNat) N = lo) := hlo
  have C13 : Hid (Calls Try.prog 13 #[.pointer (some ⟨L.bp, 0, none⟩)] w2 (VU w2 (loadV lo))) := by
    have := load_new HP.out.pw HMy.out (Nat.le_trans HNN.out (by omega))
    rw [hlo] at this
    exact this
  clear hlo
  cases lo with
  | none =>
    have C13 : Hid (Calls Try.prog 13 #[.pointer (some ⟨L.bp, 0, none⟩)] w2 (VU w2 (.tuple #[.int .i64 0, .int .i64 0]))) := C13.out
    by_cases hN0 : N = 0
    · subst hN0
      go_wp2_with (first
        | (go_at_call 13; (with_reducible refine C13.out.mono ?_); rintro e w3 ⟨rfl, HU3⟩)
        | (go_at_call 9; (with_reducible refine (t9 _).mono ?_); rintro e w4 ⟨rfl, HU4⟩))
      go_ret
      exact ⟨rfl, HU2w.out.trans (HU3.out.trans HU4.out)⟩
    · have hN1 : ((N : Int) == 0) = false := by simp; omega
      go_wp2_with (first
        | (go_at_call 13; (with_reducible refine C13.out.mono ?_); rintro e w3 ⟨rfl, HU3⟩)
        | (go_at_call 9; (with_reducible refine (t9 _).mono ?_); rintro e w4 ⟨rfl, HU4⟩))
      go_ret
      exact ⟨rfl, HU2w.out.trans (HU3.out.trans HU4.out)⟩
  | some nd =>
    obtain ⟨a, d⟩ := nd
    have C13 : Hid (Calls Try.prog 13 #[.pointer (some ⟨L.bp, 0, none⟩)] w2 (VU w2 (.tuple #[.int .i64 (a : Int), .int .i64 (d : Int)]))) := C13.out
    obtain ⟨hd1, hL1, -⟩ := light_new HMy.out HLO.out
    have HLi : Hid (a ≤ d → Light N (fun i => (T i).e) (fun i => (T i).l)) := hL1
    have hd2 : ¬ (d : Int) < 1 := by omega
    clear hd1 hL1
    by_cases hN0 : N = 0
    · subst hN0
      go_wp2_with (first
        | (go_at_call 13; (with_reducible refine C13.out.mono ?_); rintro e w3 ⟨rfl, HU3⟩)
        | (go_at_call 9; (with_reducible refine (t9 _).mono ?_); rintro e w4 ⟨rfl, HU4⟩))
      go_ret
      exact ⟨rfl, HU2w.out.trans (HU3.out.trans HU4.out)⟩
    · have hN1 : ((N : Int) == 0) = false := by simp; omega
      by_cases had : d < a
      · have had1 : (d : Int) < (a : Int) := by omega
        go_wp2_with (first
          | (go_at_call 13; (with_reducible refine C13.out.mono ?_); rintro e w3 ⟨rfl, HU3⟩)
          | (go_at_call 9; (with_reducible refine (t9 _).mono ?_); rintro e w4 ⟨rfl, HU4⟩))
        go_ret
        exact ⟨rfl, HU2w.out.trans (HU3.out.trans HU4.out)⟩
      · have had1 : decide (d < a) = false := by simp; omega
        have hd3 : decide ((d : Int) < 1) = false := by simp; omega
        clear hd2
        have HLight : Hid (Light N (fun i => (T i).e) (fun i => (T i).l)) := HLi.out (by omega)
        have HNp : Hid (0 < N) := Nat.pos_of_ne_zero hN0
        clear hN0 had
        go_wp2_with (go_at_call 13; (with_reducible refine C13.out.mono ?_); rintro e w3 ⟨rfl, HU3⟩)
        have HIT : Hid (IT w N T 0 L.bp w3) := ⟨⟨L, newP T, ⟨HP.out.pw.up HU3.out, HP.out.ok, HP.out.pb⟩, rfl, HOw.out, by have := LS.start (M := 40) HMay.out HLight.out; exact this⟩, HU2w.out.trans HU3.out⟩
        clear HP HOwn HOw HT HU1 HU2 HU2w HU3 C13 C20 HMay HMy HLi HLO N12 hN1
        clear hd3 had1
        go_loopw [10, 11, 12, 13, 14] (fun v10 _ _ _ _ wr => ∃ k : Nat, k ≤ 60 ∧ v10 = .int .i64 k ∧ Hid (IT w N T k L.bp wr)) (fun v10 _ _ _ _ _ => 60 - (intOf v10).toNat)
        case atStart => exact ⟨0, by omega, rfl, HIT⟩
        case round =>
          clear HIT
          obtain ⟨k, hk, rfl, HIT⟩ := hrel
          rename World => wr
          by_cases hlt : k < ns
          · by_cases h60 : k < 60
            · have z1 : (k : Int) < (ns : Int) := by omega
              have z2 : (0 : Int) ≤ (k : Int) := by omega
              have z3 : (k : Int) < 60 := by omega
              obtain ⟨gb, o, hpp, hr⟩ := HSL.out.rd (by omega)
              have c0 := cell_up (hr k hlt) HIT.out.up
              have xw := i16_wf (HSL.out.wf k hlt)
              generalize z k = x at *
              subst hpp
              clear hr
              obtain ⟨L1, p1, hPU, hbp, hown, hLS⟩ := HIT.out.ex
              have HPU : Hid (PU wr L1 N p1) := hPU
              have HBP : Hid (L1.bp = L.bp) := hbp
              have HOW : Hid (∀ b, L1.Own N b → w.heap.size ≤ b) := hown
              have HLS : Hid (LS N (fun i => (T i).e) (fun i => (T i).l) (fun i => (T i).r) 40 (100 * k) p1) := hLS
              clear hPU hbp hown hLS
              obtain ⟨r2, hr2⟩ : ∃ r2, x.tmod 2 = r2 := ⟨_, rfl⟩
              have br2 := tmod_in x (show (1 : Int) ≤ 2 by omega)
              rw [hr2] at br2
              by_cases hz : r2 = 0
              · have hz1 : (r2 == 0) = true := by simp [hz]
                clear hz
                obtain ⟨n1, n2, n3⟩ := HLS.out.next HLight.out HNp.out (by omega)
                have C17 : Hid (Calls Try.prog 17 #[.pointer (some ⟨L.bp, 0, none⟩)] wr (fun e w' => ∃ L' ta fa ea, e = .returned (.tuple #[.agg #[.int .i64 ta, .int .i64 fa, .int .i64 ea, .bool false], .int .i64 0]) ∧ Hid (PU w' L' N (nextP N p1).2) ∧ Hid (Kept N wr w' L1 L'))) := by
                  obtain ⟨k1, k2⟩ := t17k HPU.out.pw HPU.out.ok HPU.out.pb (Nat.le_trans HNN.out (by omega)) HNp.out n1
                  rw [HBP.out] at k1
                  refine k1.mono ?_
                  rintro e w' ⟨rfl, L', q1, q2⟩
                  refine ⟨L', (nextP N p1).1.t, (nextP N p1).1.f, (nextP N p1).1.e, ?_, ⟨q1, q2.out.ok, k2⟩, q2⟩
                  rw [← n2]
                  rfl
                have HN3 : Hid (LS N (fun i => (T i).e) (fun i => (T i).l) (fun i => (T i).r) 40 (100 * k + 2 * 40) (nextP N p1).2) := n3
                clear n1 n2 n3
                go_wp2_with (go_at_call 17; (with_reducible refine C17.out.mono ?_); rintro e w5 ⟨L2, ta, fa, ea, rfl, HPU2, HK2⟩; (have HB : Hid (SlAt (w5.alloc (.cells #[.int .i64 ta, .int .i64 fa, .int .i64 ea, .bool false] 42)) w5.heap.size 0 ⟨ta, fa, ea, false⟩) := by have e0 := heap_alloc_last w5 (.cells #[.int .i64 ta, .int .i64 fa, .int .i64 ea, .bool false] 42); exact ⟨(row_cell e0 0).1, (row_cell e0 1).1, (row_cell e0 2).1, (row_cell e0 3).1⟩))
                go_roundw
                case rel => exact ⟨k + 1, by omega, by go_num, ⟨⟨L2, _, ⟨HPU2.out.pw.up (Up.alloc _ _), HPU2.out.ok, HPU2.out.pb⟩, HK2.out.bp.trans HBP.out, fun b qb => HOW.out b (HK2.out.own b qb), HN3.out.mono (by omega)⟩, (HK2.out.upw HIT.out.up HOW.out).trans (Up.alloc _ _)⟩⟩
                case measure => simp [intOf]; omega
              · have hz1 : (r2 == 0) = false := by simp [hz]
                obtain ⟨y, hy⟩ : ∃ y, x.tmod 50 = y := ⟨_, rfl⟩
                have bry := tmod_in x (show (1 : Int) ≤ 50 by omega)
                rw [hy] at bry
                have bnow := HPU.out.pb.now
                have bn2 := HLS.out.now
                obtain ⟨now, hnow⟩ : ∃ now, p1.now = now := ⟨_, rfl⟩
                have HNOW : Hid (p1.now = now) := hnow
                rw [hnow] at bnow bn2
                obtain ⟨tk, htk⟩ : ∃ tk, now + y = tk := ⟨_, rfl⟩
                have btk : -100 ≤ tk ∧ tk ≤ 100 * k + 100 := by omega
                obtain ⟨u1, u2⟩ := (HLS.out.mono (B' := 100 * k + 100) (by omega)).until HLight.out (min tk 1152921504606846976) (by omega) (by omega) 65536
                have HU1 : Hid (∀ s ∈ (untilN N (min tk 1152921504606846976) 65536 p1).1, s.l = false) := u1
                have HU2 : Hid (LS N (fun i => (T i).e) (fun i => (T i).l) (fun i => (T i).r) 40 (100 * k + 100) (untilN N (min tk 1152921504606846976) 65536 p1).2) := u2
                have C15 : ∀ v, Up wr v → Hid (Calls Try.prog 15 #[.pointer (some ⟨L.bp, 0, none⟩)] v (fun e w' => e = .returned (.int .i64 now) ∧ w' = v)) := by
                  intro v hv
                  have := t15 (HPU.out.pw.up hv)
                  rw [HNOW.out, HBP.out] at this
                  exact this
                have C18 : ∀ v, Hid (Up wr v → Calls Try.prog 18 #[.pointer (some ⟨L.bp, 0, none⟩), .int .i64 tk] v (fun e w' => ∃ pp c L' len, e = .returned (.slice pp len c) ∧ Hid (∀ i, i < len → ∃ g, pp = some ⟨g, 0, none⟩ ∧ w'.cell? ⟨g, i * 4 + 3, none⟩ = some (.bool false)) ∧ Hid (len ≤ 65536) ∧ Hid (PU w' L' N (untilN N (min tk 1152921504606846976) 65536 p1).2) ∧ Hid (Kept N v w' L1 L'))) := by
                  intro v hv
                  have := t18 (HPU.out.pw.up hv) HPU.out.ok HPU.out.pb (Nat.le_trans HNN.out (by omega)) tk (by omega)
                  rw [HBP.out] at this
                  refine this.mono ?_
                  rintro e w' ⟨pp, c, L', rfl, k2, k3, k4, k5⟩
                  refine ⟨pp, c, L', _, rfl, fun i hi => ?_, until_len _ _ _ _, ⟨k3, k5.out.ok, k4⟩, k5⟩
                  obtain ⟨g, hg, _, _, hs⟩ := k2.out.sl (by omega)
                  refine ⟨g, hg, ?_⟩
                  have h3 := (hs i hi).c3
                  rw [HU1.out _ (by rw [List.getD_eq_getElem?_getD, List.getElem?_eq_getElem hi]; exact List.getElem_mem hi)] at h3
                  exact h3
                have wtk : IntKind.i64.wrap tk = tk := by rw [IntKind.wrap_i64]; omega
                clear u1 u2 hnow btk bn2 hz
                go_upto_region 15 with (fail)
                refine wp_region_up 10 [cV (.pointer (some ⟨L.bp, 0, none⟩)), cV (.pointer (some ⟨L.bp, 0, none⟩)), cV (.int .i64 now), cV (.slice (some ⟨gb, o, none⟩) ns cs), cV (.int .i64 k), cV (.pointer (some ⟨gb, o + k, none⟩)), cV (.int .i16 x), cV (.int .i16 y), cV (.int .i64 y), cV (.int .i64 tk)] (by kernel_rfl) (by decide) rfl (by kernel_rfl) (by kernel_rfl) ⟨mV _, mV _, mV _, mV _, mV _, mV _, mV _, mV _, mV _, mV _, trivial⟩ ?_
                intro vals
                simp only [List.take_succ_cons, List.take_zero, valsN, FillL, Act.put, List.setIfInBounds_toArray, List.set_cons_succ, List.set_cons_zero, Nat.zero_add, Nat.reduceAdd]
                refine ⟨⟨fun v hu h => ?_, fun v hu h => ?_, fun v hu h => ?_, fun v hu h => ?_, fun v hu h => ?_, fun v hu h => ?_, fun v hu h => ?_, fun v hu h => ?_, fun v hu h => ?_, fun v hu h => ?_, trivial⟩, fun v hu h => ?_⟩
                all_goals have h0 := hu
                · refine UpO.is _ rfl rfl ?_
                  go_simp
                · refine UpO.is _ rfl rfl ?_
                  go_simp
                · have e1 : vals 1 = .pointer (some ⟨L.bp, 0, none⟩) := h 1 (by decide) (by kernel_rfl)
                  refine UpO.call #[.pointer (some ⟨L.bp, 0, none⟩)] rfl rfl (by rw [e1]; kernel_rfl) (enters Try.func15 (by kernel_rfl) (by kernel_rfl) _ _) ?_
                  refine (C15 _ h0).out.mono ?_
                  rintro e w9 ⟨rfl, rfl⟩
                  exact ⟨_, rfl, rfl, Up.refl _⟩
                · refine UpO.is _ rfl rfl ?_
                  go_simp
                · refine UpO.is _ rfl rfl ?_
                  go_simp
                · have e3 : vals 3 = .slice (some ⟨gb, o, none⟩) ns cs := h 3 (by decide) (by kernel_rfl)
                  have e4 : vals 4 = .int .i64 k := h 4 (by decide) (by kernel_rfl)
                  refine UpO.is _ rfl rfl ?_
                  rw [e3, e4]
                  go_simp
                · have e5 : vals 5 = .pointer (some ⟨gb, o + k, none⟩) := h 5 (by decide) (by kernel_rfl)
                  have z := cell_up c0 h0
                  refine UpO.is _ rfl rfl ?_
                  rw [e5]
                  go_simp
                · have e6 : vals 6 = .int .i16 x := h 6 (by decide) (by kernel_rfl)
                  refine UpO.is _ rfl rfl ?_
                  rw [e6]
                  go_simp
                · have e7 : vals 7 = .int .i16 y := h 7 (by decide) (by kernel_rfl)
                  refine UpO.is _ rfl rfl ?_
                  rw [e7]
                  go_simp
                  rw [IntKind.wrap_i64]
                  omega
                · have e2 : vals 2 = .int .i64 now := h 2 (by decide) (by kernel_rfl)
                  have e8 : vals 8 = .int .i64 y := h 8 (by decide) (by kernel_rfl)
                  refine UpO.is _ rfl rfl ?_
                  rw [e2, e8]
                  go_simp
                · have e0 : vals 0 = .pointer (some ⟨L.bp, 0, none⟩) := h 0 (by decide)
                  have e9 : vals 9 = .int .i64 tk := h 9 (by decide)
                  clear h
                  rw [e0, e9]
                  clear e0 e9
                  simp only [List.drop_succ_cons, List.drop_zero]
                  have HUV : Hid (Up wr v) := hu
                  clear h0 hu
                  go_wp2_with (go_at_call 18; (with_reducible refine ((C18 _).out HUV.out).mono ?_); rintro e w5 ⟨pp, cc, L2, len, rfl, HC5, HL5, HPU2, HK2⟩)
                  have hl5 := HL5.out
                  go_loopw [14] (fun v14 w9 => ∃ j : Nat, j ≤ len ∧ v14 = .int .i64 j ∧ w9 = w5) (fun v14 _ => len - (intOf v14).toNat)
                  case atStart => exact ⟨0, by omega, rfl, rfl⟩
                  case round =>
                    obtain ⟨j, hj, rfl, hw9⟩ := hrel
                    subst hw9
                    by_cases hjl : j < len
                    · have y1 : (j : Int) < (len : Int) := by omega
                      have y2 : (0 : Int) ≤ (j : Int) := by omega
                      obtain ⟨g, hg, hc5⟩ := HC5.out j hjl
                      subst hg
                      go_wp2
                      go_roundw
                      case rel => exact ⟨j + 1, by omega, by go_num, by first | rfl | trivial⟩
                      case measure => simp [intOf]; omega
                    · go_wp2
                      go_roundw
                      case rel => exact ⟨k + 1, by omega, by go_num, ⟨⟨L2, _, HPU2.out, HK2.out.bp.trans HBP.out, fun b qb => HOW.out b (HK2.out.own b qb), HU2.out.mono (by omega)⟩, HK2.out.upw (HIT.out.up.trans HUV.out) HOW.out⟩⟩
                      case measure => simp [intOf]; omega

            · have z3 : ¬ (k : Int) < 60 := by omega
              go_wp2_with (go_at_call 9; (with_reducible refine (t9 _).mono ?_); rintro e w4 ⟨rfl, HU4⟩)
              go_ret
              exact ⟨rfl, HIT.out.up.trans HU4.out⟩
          · go_wp2_with (go_at_call 9; (with_reducible refine (t9 _).mono ?_); rintro e w4 ⟨rfl, HU4⟩)
            go_ret
            exact ⟨rfl, HIT.out.up.trans HU4.out⟩
end Go.Proofs.Ytjklaemhfhakhaa

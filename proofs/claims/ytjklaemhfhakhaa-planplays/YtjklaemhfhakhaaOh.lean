/- The law where tasks are taken. -/
import Derived.Test.YtjklaemhfhakhaaOe
import Derived.Deep.CutBlock
import Derived.BigRegion
namespace Go.Proofs.Ytjklaemhfhakhaa
open Go.ChangeShapes Go.WideShapes Go.ChangeAt Go.RowKit

/-- The first of them are overwritten. -/
def mixT (T : Nat → Tk) (i j : Nat) : Tk := if j < i then ⟨1, 1, 0⟩ else T j
theorem mixT_at (T : Nat → Tk) (i : Nat) : mixT T i i = T i := if_neg (Nat.lt_irrefl _)
theorem mixT_next (T : Nat → Tk) (i : Nat) : upd (mixT T i) i ⟨1, 1, 0⟩ = mixT T (i + 1) := by
  funext j
  by_cases q : j = i
  · subst q
    rw [upd_at]
    exact (if_pos (Nat.lt_succ_self _)).symm
  · rw [upd_ne _ _ q]
    unfold mixT
    by_cases h : j < i
    · rw [if_pos h, if_pos (by omega)]
    · rw [if_neg h, if_neg (by omega)]
/-- What the loop over the script keeps. -/
structure LQ (B : Nat) (w0 w : World) (lb mb n N : Nat) : Prop where
  ex : ∃ L M p X, Both w L M n N p X ∧ L.bp = lb ∧ M.bp = mb ∧ ∀ b, L.Own n b ∨ M.Own n b → B ≤ b
  kp : Kp (fun b => b < B) w0 w
theorem LQ.step {B lb mb n N : Nat} {w0 w w1 : World} {L : Ly} {M : RL} (hB : B ≤ w0.heap.size) (hk : Kp (fun b => b < B) w0 w) (hL : L.bp = lb) (hM : M.bp = mb) (ho : ∀ b, L.Own n b ∨ M.Own n b → B ≤ b) {L1 : Ly} {M1 : RL} {p1 : Pl} {X1 : Nat → On} (hb : Both w1 L1 M1 n (N + 1) p1 X1) (e1 : L1.bp = L.bp) (e2 : M1.bp = M.bp) (k1 : Kp (fun b => ¬ L.Own n b ∧ ¬ M.Own n b) w w1) (o1 : ∀ b, L1.Own n b ∨ M1.Own n b → (L.Own n b ∨ M.Own n b) ∨ w.heap.size ≤ b) : LQ B w0 w1 lb mb n (N + 1) := by
  refine ⟨⟨L1, M1, p1, X1, hb, e1.trans hL, e2.trans hM, fun b hb => ?_⟩, hk.trans (k1.mono fun b _ hb => ⟨fun q => ?_, fun q => ?_⟩)⟩
  · rcases o1 b hb with q | q
    · exact ho b q
    · have := hk.size
      omega
  · have := ho b (Or.inl q)
    omega
  · have := ho b (Or.inr q)
    omega
theorem LQ.up {B lb mb n N : Nat} {w0 w w1 : World} (h : LQ B w0 w lb mb n N) (hu : Up w w1) : LQ B w0 w1 lb mb n N := by
  obtain ⟨⟨L, M, p, X, h1, h2, h3, h4⟩, k⟩ := h
  exact ⟨⟨L, M, p, X, h1.up hu, h2, h3, h4⟩, k.trans (Kp.of_up hu)⟩
theorem ScL.kp {w w' : World} {p : Option Addr} {n cap : Nat} {S : Nat → Stp} {F : Nat → Prop} (h : ScL w p n cap S) (k : Kp F w w') (hF : ∀ b, b < w.heap.size → F b) : ScL w' p n cap S := h.up (k.up hF)
theorem new_both {w : World} {L : Ly} {M : RL} {n B : Nat} {T : Nat → Tk} {X : Nat → On} (h1 : PW w L n (newP T)) (h2 : L.Ok n) (h3 : RQ w M n (newP T) X) (h4 : M.Ok n) (hB : ∀ b, L.Own n b → b < B) (hC : ∀ b, M.Own n b → B ≤ b) : Both w L M n 0 (newP T) X :=
  ⟨h1, h2, h3.rw', h4, fun b q r => by have := hB b q; have := hC b r; omega, ⟨h3.pb.now, h3.abs, h3.ok, fun i hi => Nat.le_refl _⟩⟩
end Go.Proofs.Ytjklaemhfhakhaa
/- The law where tasks are taken: the walk. -/
namespace Go.Proofs.Ytjklaemhfhakhaa
open Go.ChangeShapes Go.WideShapes Go.ChangeAt Go.RowKit

theorem Both.kp {w w' : World} {L : Ly} {M : RL} {n N : Nat} {p : Pl} {X : Nat → On} {F : Nat → Prop} (h : Both w L M n N p X) (k : Kp F w w') (hF : ∀ b, L.Own n b ∨ M.Own n b → F b) : Both w' L M n N p X :=
  ⟨h.pw.kp k (fun b hb => hF b (Or.inl hb)), h.lo, h.rw'.kp k (fun b hb => hF b (Or.inr hb)), h.mo, h.ap, h.two⟩
set_option maxHeartbeats 16000000 in
set_option maxRecDepth 200000 in
theorem t3k {w : World} {p : Option Addr} {n cap : Nat} {T : Nat → Tk} (h : TL w p n cap T) (hn : n ≤ 256) (hm : ∀ i, i < n → MayT (T i).e (T i).l) {q : Option Addr} {ns cs : Nat} {S : Nat → Stp} (hs : ScL w q ns cs S) (hns : ns ≤ 500) : Calls Try.prog 3 #[.slice p n cap, .slice q ns cs] w (VU w (.bool true)) := by
  have z0 : ¬ (500 : Int) < (ns : Int) := by omega
  have HT : Hid (TL w p n cap T) := h
  have HS : Hid (ScL w q ns cs S) := hs
  have hlt : Hid (∀ b o, p = some ⟨b, o, none⟩ → 0 < n → b < w.heap.size) := fun b o e h0 => by
    obtain ⟨b', o', e', r⟩ := h.rd h0
    rw [e'] at e
    simp only [Option.some.injEq, Addr.mk.injEq] at e
    obtain ⟨rfl, rfl, -⟩ := e
    exact World.block_lt_of_cell? w _ (r 0 h0).c0
  have C10 : Hid (∀ V q c, TL V q n c T → Calls Try.prog 10 #[.slice q n c] V (fun e w' => ∃ L, e = .returned (.tuple #[.pointer (some ⟨L.bp, 0, none⟩), .int .i64 0]) ∧ Hid (PW w' L n (newP T)) ∧ Hid (L.Ok n) ∧ Hid (∀ b, L.Own n b → V.heap.size ≤ b) ∧ Hid (Up V w'))) := fun V q c hV => (t10 hV hn).mono fun e w' hR => by
    rcases hR with ⟨-, r⟩ | ⟨r, -, -⟩
    · exact r
    · exact absurd hm r
  have C11 : Hid (∀ V q c, TL V q n c T → Calls Try.prog 11 #[.slice q n c] V (fun e w' => ∃ L, e = .returned (.tuple #[.pointer (some ⟨L.bp, 0, none⟩), .int .i64 0]) ∧ Hid (RQ w' L n (newP T) (onT T)) ∧ Hid (L.Ok n) ∧ Hid (∀ b, L.Own n b → V.heap.size ≤ b) ∧ Hid (Up V w'))) := fun V q c hV => (t11 hV hn).mono fun e w' hR => by
    rcases hR with ⟨-, r⟩ | ⟨r, -, -⟩
    · exact r
    · exact absurd hm r
  have HE : Hid ((w.alloc (.cells #[] 26)).ownsRow w.heap.size 26 3 (.slice (some ⟨w.heap.size, 0, none⟩) 0 0) 0 []) := empty_own w
  have HT1 : Hid (TL (w.alloc (.cells #[] 26)) p n cap T) := h.up (Up.alloc _ _)
  have hbase : w.heap.size ≤ (w.alloc (.cells #[] 26)).heap.size := (Up.alloc _ _).size
  have hb1 : n * 24 ≤ 140737488355328 := by omega
  have hb : (n + 1) * 24 ≤ 140737488355328 := by omega
  clear h hm hs
  go_enter Try.func3, Try.ntmps3
  go_upto_region 3 with fail
  go_upto_region 7 with (first
    | (at_builtin; (with_reducible refine wpList_app_tk rfl _ _ rfl w.heap.size 0 (some ⟨w.heap.size, 0, none⟩) p n cap T rfl rfl HE.out HT1.out hb1 hbase ?_); intro p1 c1 w1 HO1 HG1; (have HU1 : Hid (Up w w1) := up_first HG1.out); (have hbase1 : w.heap.size ≤ w1.heap.size := HU1.out.size))
    | (at_builtin; (with_reducible refine wpList_mark (z := ⟨77, 0, 0⟩) rfl _ _ rfl p1 n c1 _ rfl rfl HO1.out hbase1 hb ?_); intro p2 c2 w2 HO2 HG2; (have HU2 : Hid (Up w w2) := up_grown HU1.out HG2.out (fun b e => (World.ownsRow.lt HO1.out b e).1)); (obtain ⟨g, c3, hv, HRM0, hge, hcap⟩ := RM.of HO2.out); (simp only [Value.slice.injEq, true_and] at hv); (obtain ⟨rfl, rfl⟩ := hv); (have HRM2 : Hid (RM w2 g n T ⟨77, 0, 0⟩) := HRM0); (have HRT : Hid (TL w2 (some ⟨g, 0, none⟩) n c2 T) := HRM0.tl hcap); clear HRM0; (have hcap1 : (n : Int) ≤ (c2 : Int) := by omega); (have hn0 : (0 : Int) ≤ (n : Int) := by omega))
    | (go_at_call 10; (with_reducible refine (C10.out _ _ _ HRT.out).mono ?_); rintro e w3 ⟨L, rfl, HP, HLO, HOL, HU3⟩)
    | (go_at_call 11; (with_reducible refine (C11.out w3 p cap ?_).mono ?_); (exact HT.out.up (HU2.out.trans HU3.out)); rintro e w4 ⟨M, rfl, HRQ, HMO, HOM, HU4⟩))
  have HB4 : Hid (Both w4 L M n 0 (newP T) (onT T)) := new_both (B := w3.heap.size) (HP.out.up HU4.out) HLO.out HRQ.out HMO.out (fun b hb => HP.out.own_less hb) HOM.out
  have HB2 : Hid (∀ b, L.Own n b ∨ M.Own n b → w2.heap.size ≤ b) := fun b hb => by
    have := HU3.out.size
    rcases hb with q | q
    · exact HOL.out b q
    · have := HOM.out b q
      omega
  have HR4 : Hid (RM w4 g n T ⟨77, 0, 0⟩) := (HRM2.out.up HU3.out).up HU4.out
  have HG : Hid (w.heap.size ≤ g ∧ g < w2.heap.size ∧ w2.heap.size ≤ w4.heap.size) := ⟨hge, HRM2.out.lt, Nat.le_trans HU3.out.size HU4.out.size⟩
  have HUU : Hid (Up w w4) := (HU2.out.trans HU3.out).trans HU4.out
  obtain ⟨lb, hlb⟩ : ∃ lb, L.bp = lb := ⟨_, rfl⟩
  obtain ⟨mb, hmb⟩ : ∃ mb, M.bp = mb := ⟨_, rfl⟩
  have HLB : Hid (L.bp = lb ∧ M.bp = mb) := ⟨hlb, hmb⟩
  rw [hlb, hmb]
  clear hlb hmb HE HT1 hbase hb1 hb HO1 HG1 HU1 hbase1 HO2 HG2 HU2 HRM2 HRT HP HLO HOL HU3 HRQ HMO HOM HU4 hge hcap
  go_wp2_with fail
  go_loopw [11] (fun v11 wr => ∃ i : Nat, i ≤ n ∧ v11 = .int .i64 i ∧ Hid (RM wr g n (mixT T i) ⟨77, 0, 0⟩) ∧ Hid (Kp (fun b => b ≠ g) w4 wr)) (fun v11 _ => n - (intOf v11).toNat)
  case atStart => exact ⟨0, Nat.zero_le _, rfl, by rw [show mixT T 0 = T from funext fun j => if_neg (by omega)]; exact HR4, Kp.refl _ _⟩
  case round =>
    obtain ⟨i, hi, rfl, HRM, HK⟩ := hrel
    rename World => wr
    have y0 : (0 : Int) ≤ (i : Int) := by omega
    by_cases hin : i < n
    · have b0 : (i : Int) < (n : Int) := by omega
      obtain ⟨b, od, rfl, hr⟩ := HT.out.rd (by omega)
      have hbg : b ≠ g := fun e => by
        have := hlt.out b od rfl (by omega)
        have := HG.out.1
        omega
      have l0 := ((hr i hin).up HUU.out).kp HK.out hbg
      have l1 := HRM.out.at' i hin
      rw [mixT_at] at l1
      clear hr hbg
      obtain ⟨⟨te, tl, tr⟩, htk⟩ : ∃ t, T i = t := ⟨_, rfl⟩
      rw [htk] at l0 l1
      clear htk
      obtain ⟨x0, x1, x2⟩ := l0
      obtain ⟨k0, k1, k2⟩ := l1
      simp only at x0 x1 x2 k0 k1 k2
      have f0 := HRM.out.fz (i * 3)
      have f1 := HRM.out.fz (i * 3 + 1)
      have f2 := HRM.out.fz (i * 3 + 2)
      go_wp2_with fail
      go_region
      go_wp2_with fail
      go_roundw
      case rel => exact ⟨i + 1, by omega, by go_num, by rw [← mixT_next]; exact (HRM.out.up (Up.drew _)).set hin 1 1 0, (((HK.out.drewN 1).setCell (fun q => q rfl) _).setCell (fun q => q rfl) _).setCell (fun q => q rfl) _⟩
      case measure => simp [intOf]; omega
    · have b0 : ¬ (i : Int) < (n : Int) := by omega
      obtain rfl : i = n := by omega
      have hg5 : w4.heap.size ≤ wr.heap.size := HK.out.size
      have HQ0 : Hid (LQ w2.heap.size wr wr lb mb i 0) := ⟨⟨L, M, newP T, onT T, HB4.out.kp HK.out (fun b hb e => by
        have := HB2.out b hb
        have := HG.out.2.1
        omega), HLB.out.1, HLB.out.2, HB2.out⟩, Kp.refl _ _⟩
      have HUr : Hid (Up w wr) := ((Kp.of_up (F := fun _ => True) HUU.out).two HK.out (fun b _ hb e => by
        have := HG.out.1
        omega)).up (fun _ _ => trivial)
      have HSr : Hid (ScL wr q ns cs S) := HS.out.up HUr.out
      go_wp2_with fail
      have HLQ : Hid (w2.heap.size ≤ wr.heap.size) := Nat.le_trans HG.out.2.2 hg5
      clear HB4 HB2 HR4 HUU
      have HRMr : Hid (RM wr g i (mixT T i) ⟨77, 0, 0⟩) := HRM
      clear HRM HK hg5
      go_loopw [12, 13, 14, 15, 16, 17] (fun v12 v13 _ _ _ _ wz => ∃ k lg : Nat, k ≤ ns ∧ lg ≤ 20 ∧ v12 = .int .i64 lg ∧ v13 = .int .i64 k ∧ Hid (LQ w2.heap.size wr wz lb mb i k)) (fun _ v13 _ _ _ _ _ => ns - (intOf v13).toNat)
      case atStart => exact ⟨0, 0, Nat.zero_le _, Nat.zero_le _, rfl, rfl, HQ0⟩
      case round =>
        obtain ⟨k, lg, hk, hl, rfl, rfl, HQ⟩ := hrel
        rename World => wz
        have y1 : (0 : Int) ≤ (k : Int) := by omega
        have y2 : (0 : Int) ≤ (lg : Int) := by omega
        have y3 : (lg : Int) ≤ 20 := by omega
        have y4 : (k : Int) ≤ 500 := by omega
        by_cases hkn : k < ns
        · have b1 : (k : Int) < (ns : Int) := by omega
          obtain ⟨L1, M1, pp, X1, HB1, hL1, hM1, ho1⟩ := HQ.out.ex
          have HUz : Hid (Up w wz) := ((Kp.of_up (F := fun _ => True) HUr.out).two HQ.out.kp (fun b _ hb => by
            obtain ⟨h1, h2, h3⟩ := HG.out
            omega)).up (fun _ _ => trivial)
          have HSz : Hid (ScL wz q ns cs S) := HS.out.up HUz.out
          obtain ⟨sb, so, rfl, hrs⟩ := HSz.out.rd (by omega)
          have HST : Hid (∀ V, Up w V → StpAt V sb (so + k * 6) (S k)) := fun V hV => by
            obtain ⟨b', o', e', r⟩ := HS.out.rd (by omega)
            simp only [Option.some.injEq, Addr.mk.injEq, and_true] at e'
            obtain ⟨rfl, rfl⟩ := e'
            exact (r k hkn).up hV
          have c12 := t12 HB1 hn (by omega) (S k) (HS.out.big k hkn).1
          rw [hL1, hM1] at c12
          have C12 : Hid (Calls Try.prog 12 #[.pointer (some ⟨lb, 0, none⟩), .pointer (some ⟨mb, 0, none⟩), (S k).val] wz (StepR wz L1 M1 i (k + 1))) := c12
          clear c12
          have hst := HST.out wz HUz.out
          obtain ⟨⟨sd, st, si, se, sl, sr⟩, hsk⟩ : ∃ s, S k = s := ⟨_, rfl⟩
          rw [hsk] at hst C12 HST
          obtain ⟨x0, x1, x2, x3, x4, x5⟩ := hst
          simp only [Stp.val] at x0 x1 x2 x3 x4 x5 C12
          have HHH : Hid (L1.bp = lb ∧ M1.bp = mb ∧ ∀ b, L1.Own i b ∨ M1.Own i b → w2.heap.size ≤ b) := ⟨hL1, hM1, ho1⟩
          clear hrs hsk hL1 hM1 ho1 HB1
          go_upto_region 21 with (go_at_call 12; (with_reducible refine C12.out.mono ?_); rintro e w6 ⟨rfl, L2, M2, p2, X2, HB2, e1, e2, HK2, HO2⟩)
          have HQ6 : Hid (LQ w2.heap.size wr w6 lb mb i (k + 1)) := LQ.step HLQ.out HQ.out.kp HHH.out.1 HHH.out.2.1 HHH.out.2.2 HB2.out e1 e2 HK2.out HO2.out
          have HU6 : Hid (Up w w6) := ((Kp.of_up (F := fun _ => True) HUr.out).two HQ6.out.kp (fun b _ hb => by
            obtain ⟨h1, h2, h3⟩ := HG.out
            omega)).up (fun _ _ => trivial)
          obtain ⟨x, y, hxy⟩ : ∃ x y : Int, loadV (loadN (ldE X2) (ldL X2) i) = .tuple #[.int .i64 x, .int .i64 y] := by
            cases loadN (ldE X2) (ldL X2) i with
            | none => exact ⟨0, 0, rfl⟩
            | some v => exact ⟨(v.1 : Int), (v.2 : Int), rfl⟩
          have C13 : Hid (Calls Try.prog 13 #[.pointer (some ⟨lb, 0, none⟩)] w6 (VU w6 (.tuple #[.int .i64 x, .int .i64 y]))) := by
            have := HB2.out.l13 hn (by omega)
            rwa [e1, HHH.out.1, hxy] at this
          have C14 : Hid (∀ V, Up w6 V → Calls Try.prog 14 #[.pointer (some ⟨mb, 0, none⟩)] V (VU V (.tuple #[.int .i64 x, .int .i64 y]))) := fun V hV => by
            have := (HB2.out.up hV).l14 hn
            rwa [e2, HHH.out.2.1, hxy] at this
          have C15 : Hid (∀ V, Up w6 V → Calls Try.prog 15 #[.pointer (some ⟨lb, 0, none⟩)] V (fun e w' => e = .returned (.int .i64 p2.now) ∧ w' = V)) := fun V hV => by
            have := t15 (HB2.out.up hV).pw
            rwa [e1, HHH.out.1] at this
          have C16 : Hid (∀ V, Up w6 V → Calls Try.prog 16 #[.pointer (some ⟨mb, 0, none⟩)] V (fun e w' => e = .returned (.int .i64 p2.now) ∧ w' = V)) := fun V hV => by
            have := t16 (HB2.out.up hV).rw'
            rwa [e2, HHH.out.2.1] at this
          obtain ⟨nw, hnw⟩ : ∃ nw, p2.now = nw := ⟨_, rfl⟩
          rw [hnw] at C15 C16
          clear hxy e1 e2 HB2 HK2 HO2 x0 x1 x2 x3 x4 x5 hnw
          go_upto_region 25 with (first
            | (go_at_call 13; (with_reducible refine C13.out.mono ?_); rintro e w7 ⟨rfl, HU7⟩)
            | (go_at_call 14; (with_reducible refine (C14.out w7 HU7.out).mono ?_); rintro e w8 ⟨rfl, HU8⟩; (have HU68 : Hid (Up w6 w8) := HU7.out.trans HU8.out))
            | (go_at_call 15; (with_reducible refine (C15.out w8 HU68.out).mono ?_); rintro e w9 ⟨rfl, hw9⟩; subst w9)
            | (go_at_call 16; (with_reducible refine (C16.out w8 HU68.out).mono ?_); rintro e w9 ⟨rfl, hw9⟩; subst w9))
          have HQ8 : Hid (LQ w2.heap.size wr w8 lb mb i (k + 1)) := HQ6.out.up HU68.out
          have HUZ : Hid (Up w w8) := HU6.out.trans HU68.out
          have HRZ : Hid (RM w8 g i (mixT T i) ⟨77, 0, 0⟩) := HRMr.out.kp HQ8.out.kp HG.out.2.1
          obtain ⟨x0, x1, x2, x3, x4, x5⟩ := HST.out w8 HUZ.out
          simp only at x0 x1 x2 x3 x4 x5
          clear C12 C13 C14 C15 C16 HST
          by_cases hlg : lg = 20
          · subst hlg
            by_cases d1 : sd = 1
            · subst d1
              obtain ⟨rm0, -, -⟩ := HRZ.out.mark
              simp only at rm0
              have rb0 : (0 : Int) ≤ (i : Int) := by omega
              have rb1 : (i : Int) < (i : Int) + 1 := by omega
              go_wp2_with (go_at_call 9; (with_reducible refine (t9 _).mono ?_); rintro e w12 ⟨rfl, HU12⟩)
              go_ret
              exact ⟨rfl, HUZ.out.trans HU12.out⟩
            · by_cases d3 : sd = 3
              · subst d3
                obtain ⟨rm0, -, -⟩ := HRZ.out.mark
                simp only at rm0
                have rb0 : (0 : Int) ≤ (i : Int) := by omega
                have rb1 : (i : Int) < (i : Int) + 1 := by omega
                go_wp2_with (go_at_call 9; (with_reducible refine (t9 _).mono ?_); rintro e w12 ⟨rfl, HU12⟩)
                go_ret
                exact ⟨rfl, HUZ.out.trans HU12.out⟩
              · have q1 : (sd == 1) = false := by rw [beq_eq_false_iff_ne]; exact d1
                have q3 : (sd == 3) = false := by rw [beq_eq_false_iff_ne]; exact d3
                clear d1 d3
                go_wp2_with fail
                go_roundw
                case rel => exact ⟨k + 1, 20, by omega, by omega, rfl, by go_num, HQ8⟩
                case measure => simp [intOf]; omega
          · have y5 : (lg : Int) ≤ 19 := by omega
            have y6 : ¬ (20 : Int) < (lg : Int) + 1 := by omega
            have y7 : ¬ (20 : Int) < (lg : Int) := by omega
            by_cases d1 : sd = 1
            · subst d1
              go_wp2_with fail
              go_roundw
              case rel => exact ⟨k + 1, lg + 1, by omega, by omega, by go_num, by go_num, HQ8⟩
              case measure => simp [intOf]; omega
            · by_cases d3 : sd = 3
              · subst d3
                go_wp2_with fail
                go_roundw
                case rel => exact ⟨k + 1, lg + 1, by omega, by omega, by go_num, by go_num, HQ8⟩
                case measure => simp [intOf]; omega
              · have q1 : (sd == 1) = false := by rw [beq_eq_false_iff_ne]; exact d1
                have q3 : (sd == 3) = false := by rw [beq_eq_false_iff_ne]; exact d3
                clear d1 d3
                go_wp2_with fail
                go_roundw
                case rel => exact ⟨k + 1, lg, by omega, by omega, rfl, by go_num, HQ8⟩
                case measure => simp [intOf]; omega
        · have b1 : ¬ (k : Int) < (ns : Int) := by omega
          have HUZ : Hid (Up w wz) := ((Kp.of_up (F := fun _ => True) HUr.out).two HQ.out.kp (fun b _ hb => by
            obtain ⟨h1, h2, h3⟩ := HG.out
            omega)).up (fun _ _ => trivial)
          have HRZ : Hid (RM wz g i (mixT T i) ⟨77, 0, 0⟩) := HRMr.out.kp HQ.out.kp HG.out.2.1
          obtain ⟨rm0, -, -⟩ := HRZ.out.mark
          simp only at rm0
          have rb0 : (0 : Int) ≤ (i : Int) := by omega
          have rb1 : (i : Int) < (i : Int) + 1 := by omega
          go_wp2_with (go_at_call 9; (with_reducible refine (t9 _).mono ?_); rintro e w12 ⟨rfl, HU12⟩)
          go_ret
          exact ⟨rfl, HUZ.out.trans HU12.out⟩
end Go.Proofs.Ytjklaemhfhakhaa
/- The law, whatever comes in. -/
namespace Go.Proofs.Ytjklaemhfhakhaa
open Go.ChangeShapes Go.WideShapes Go.ChangeAt Go.RowKit

theorem t3 {w : World} {p : Option Addr} {n cap : Nat} {T : Nat → Tk} (h : TL w p n cap T) (hb : (n + 1) * 24 ≤ 140737488355328) {q : Option Addr} {ns cs : Nat} {S : Nat → Stp} (hs : ScL w q ns cs S) : Calls Try.prog 3 #[.slice p n cap, .slice q ns cs] w (VU w (.bool true)) := by
  rcases Nat.lt_or_ge 500 ns with h5 | h5
  · exact t3m h5
  rcases Nat.lt_or_ge 256 n with h2 | h2
  · exact t3r h hb h5 (z := 3) (fun _ _ _ _ => t10long h2) (fun _ _ _ _ => t11long h2)
  by_cases hm : ∀ i, i < n → MayT (T i).e (T i).l
  · exact t3k h h2 hm hs h5
  · refine t3r h hb h5 (z := 240) (fun V q c hV => (t10 hV h2).mono ?_) (fun V q c hV => (t11 hV h2).mono ?_)
    · rintro e w' (⟨k, -⟩ | ⟨-, r⟩)
      · exact absurd k hm
      · exact r
    · rintro e w' (⟨k, -⟩ | ⟨-, r⟩)
      · exact absurd k hm
      · exact r
end Go.Proofs.Ytjklaemhfhakhaa

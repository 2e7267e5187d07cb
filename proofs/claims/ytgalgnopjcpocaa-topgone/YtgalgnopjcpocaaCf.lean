/- Scene: Rows and Echo. -/
import Derived.Test.YtgalgnopjcpocaaCe
namespace Go.Proofs.Ytgalgnopjcpocaa
open Go.ChangeShapes Go.WideShapes Go.ChangeAt Go.RowKit Go.Fl Ieee
attribute [local go_sem] run_store_float run_store_c isSome_set call20 call33 run_neg fold_eq fold_ne fold_lt fold_gt abs_eq

/-- The samples of a scene: the first targets' echoes, one behind the other. -/
def sceneS (b : Bt) (f : Nat → Tg) (tm n N : Nat) (P : Nat → C2) : Nat → Nat → C2
  | 0 => fun _ => (some 0, some 0)
  | T + 1 => echoS b (f T) tm n N P (sceneS b f tm n N P T) b.R
/-- .. with noise behind them. -/
def finalS (b : Bt) (f : Nat → Tg) (tm n N : Nat) (P : Nat → C2) (T wd : Nat) (seed : Int) : Nat → C2 :=
  if gtF (ab wd) (ab 0) = true then noiseS (sceneS b f tm n N P T) seed wd N else sceneS b f tm n N P T
set_option maxRecDepth 20000 in
theorem t27e {w : World} {cc vv rr n pc tm wd T cp : Nat} {E R z seed : Int} {q p : Option Addr} (hz : z ≠ 0)
    (h35 : ∀ W, Up w W → Calls Try.prog 38 #[.agg #[.float .f64 cc, .float .f64 vv, .float .f64 rr, .int .i64 E, .int .i64 R], .int .i64 n, .slice p T cp, .float .f64 tm, .float .f64 wd] W (IU W z)) :
    Calls Try.prog 27 #[.agg #[.float .f64 cc, .float .f64 vv, .float .f64 rr, .int .i64 E, .int .i64 R], .slice q n pc, .slice p T cp, .float .f64 tm, .float .f64 wd, .int .u64 seed] w (ER z w) := by
  have H : Hid (∀ W, Up w W → Calls Try.prog 38 #[.agg #[.float .f64 cc, .float .f64 vv, .float .f64 rr, .int .i64 E, .int .i64 R], .int .i64 n, .slice p T cp, .float .f64 tm, .float .f64 wd] W (IU W z)) := h35
  obtain ⟨b0, b1, b2, b3, b4⟩ := BC.new w cc vv rr E R
  have hz1 : (z != 0) = true := by simp [hz]
  clear h35 hz
  go_enter Try.func27, Try.ntmps27
  go_wp2_with (go_at_call 38; (with_reducible refine (H.out _ (Up.alloc _ _)).mono ?_); rintro e w1 ⟨rfl, U1⟩)
  go_ret2
  exact ⟨rfl, (Up.alloc _ _).trans U1.out⟩
/-- All that stands behind the echoes so far. -/
structure RS (w wr : World) (B gb b1 b2 b3 b4 : Nat) (b : Bt) (pg po n pc tm N : Nat) (fp : Nat → Nat × Nat) (d : List (Nat × Nat)) (F : Nat → C2) : Prop where
  ax : AX wr B b1 b2 b3 b4 b pg po n pc tm N fp
  bc : BC wr gb b.c b.v b.r (b.E : Int) (b.R : Int)
  nb : gb ≠ B
  row : CRow w.heap.size wr (.slice (some ⟨B, 0, none⟩) N N) d
  lo : w.heap.size ≤ B
  up : Up w wr
  at_ : ∀ i, i < N → ab2 d[i]! = F i
theorem RS.grow {w wr w' : World} {B gb b1 b2 b3 b4 : Nat} {b : Bt} {pg po n pc tm N : Nat} {fp : Nat → Nat × Nat} {d : List (Nat × Nat)} {F : Nat → C2} (h : RS w wr B gb b1 b2 b3 b4 b pg po n pc tm N fp d F) (hu : Up wr w') : RS w w' B gb b1 b2 b3 b4 b pg po n pc tm N fp d F :=
  ⟨h.ax.but (But.of_up hu), h.bc.up hu, h.nb, h.row.up hu, h.lo, h.up.trans hu, h.at_⟩
set_option maxRecDepth 20000 in
theorem eg56 (args : Array Value) (w : World) : (callFunc 56 args).run Try.prog w = .ok (.enter 56 args) w := enters Try.func56 (by kernel_rfl) (by kernel_rfl) _ _
theorem zero_ab : ab2 (0, 0) = (some 0, some 0) := by decide +kernel
set_option maxRecDepth 20000 in
set_option maxHeartbeats 4000000 in
theorem t27 {w : World} {cc vv rr n pc tm wd T cp E R N pg po tg : Nat} {seed : Int} {p : Option Addr} {fp : Nat → Nat × Nat} {f : Nat → Tg}
    (h35 : ∀ W, Up w W → Calls Try.prog 38 #[.agg #[.float .f64 cc, .float .f64 vv, .float .f64 rr, .int .i64 E, .int .i64 R], .int .i64 n, .slice p T cp, .float .f64 tm, .float .f64 wd] W (IU W 0))
    (hc : goodF (ab cc) = true) (hv : goodF (ab vv) = true) (hE1 : 1 ≤ E) (hE : E ≤ 16384) (hR : R ≤ 256) (hN : R * E = N) (hN2 : N ≤ 262144) (hn1 : 1 ≤ n) (hn : n ≤ 16384) (hT : T ≤ 256)
    (hp : RD w pg po n fp) (ht : TL w tg T f) (htp : 0 < T → p = some ⟨tg, 0, none⟩) (hf : ∀ i, i < T → fin (ab (f i).t) = true) :
    Calls Try.prog 27 #[.agg #[.float .f64 cc, .float .f64 vv, .float .f64 rr, .int .i64 E, .int .i64 R], .slice (some ⟨pg, po, none⟩) n pc, .slice p T cp, .float .f64 tm, .float .f64 wd, .int .u64 seed] w
      (OKT w R E (fun k g => finalS ⟨cc, vv, rr, E, R⟩ f tm n N (fun i => ab2 (fp i)) T wd seed (k * E + g))) := by
  have H : Hid (∀ W, Up w W → Calls Try.prog 38 #[.agg #[.float .f64 cc, .float .f64 vv, .float .f64 rr, .int .i64 E, .int .i64 R], .int .i64 n, .slice p T cp, .float .f64 tm, .float .f64 wd] W (IU W 0)) := h35
  have HB0 := BC.new w cc vv rr E R
  have HC : Hid (goodF (ab cc) = true ∧ goodF (ab vv) = true ∧ ∀ i, i < T → fin (ab (f i).t) = true) := ⟨hc, hv, hf⟩
  have HN : Hid (R * E = N) := hN
  have hz : (R : Int) * (E : Int) = N := by rw [← hN, Int.natCast_mul]
  have e4 : IntKind.i64.wrap (N : Int) = N := i64_id (by omega)
  have HP : Hid (RD w pg po n fp) := hp
  have HT : Hid (TL w tg T f) := ht
  have HTP : Hid (0 < T → p = some ⟨tg, 0, none⟩) := htp
  have HPL : Hid (pg < w.heap.size) := World.block_lt_of_cell? w _ (hp 0 (by omega))
  have HTL : Hid (0 < T → tg < w.heap.size) := fun h => World.block_lt_of_cell? w _ (ht 0 h).1
  have HB : Hid (BC (w.alloc (.cells #[.float .f64 cc, .float .f64 vv, .float .f64 rr, .int .i64 E, .int .i64 R] 63)) w.heap.size cc vv rr (E : Int) (R : Int)) := HB0
  obtain ⟨b0, b1, b2, b3, b4⟩ := HB0
  clear h35 hc hv hf hN hp ht htp
  go_enter Try.func27, Try.ntmps27
  go_wp2_with (first
    | (go_at_call 38; (with_reducible refine (H.out _ (Up.alloc _ _)).mono ?_); rintro e w1 ⟨rfl, U1⟩
       have a3 := cell_up b3 U1.out
       have a4 := cell_up b4 U1.out)
    | ((with_reducible refine upon_makeCz N rfl (by omega) ?_); intro B w2 HM
       have d0 := cell_up (cell_up b0 U1.out) HM.out.2.2
       have d1 := cell_up (cell_up b1 U1.out) HM.out.2.2
       have d2 := cell_up (cell_up b2 U1.out) HM.out.2.2
       have d3 := cell_up a3 HM.out.2.2
       have d4 := cell_up a4 HM.out.2.2))
  have U2 : Hid (Up w w2) := ((Up.alloc _ _).trans U1.out).trans HM.out.2.2
  have HBL : Hid (w.heap.size < B ∧ B < w2.heap.size) := by
    have s1 := size_one w (.cells #[.float .f64 cc, .float .f64 vv, .float .f64 rr, .int .i64 E, .int .i64 R] 63)
    have s2 := U1.out.size
    have s3 := HM.out.1
    have s4 := (World.ownsRow.lt HM.out.2.1 _ rfl).2
    exact ⟨by omega, s4⟩
  (with_reducible refine (t39 (fp := fp) (HP.out.up U2.out) (by have := HPL.out; have := HBL.out.1; omega) HBL.out.2).mono ?_)
  rintro e w3 ⟨b1', b2', b3', b4', rfl, HX, U3⟩
  have HS0 : Hid (RS w w3 B w.heap.size b1' b2' b3' b4' ⟨cc, vv, rr, E, R⟩ pg po n pc tm N fp (List.replicate N (0, 0)) (sceneS ⟨cc, vv, rr, E, R⟩ f tm n N (fun i => ab2 (fp i)) 0)) := by
    refine ⟨HX.out, (HB.out.up U1.out).up (HM.out.2.2.trans U3.out), ?_, (HM.out.2.1.down ?_).up U3.out, ?_, U2.out.trans U3.out, fun i hi => ?_⟩
    · have := HBL.out.1; omega
    · have := HM.out.1; have := HBL.out.1; omega
    · have := HBL.out.1; omega
    · rw [getElem!_pos _ i (by simpa using hi), List.getElem_replicate, zero_ab]; rfl
  have e59 : ∀ args w, (callFunc 56 args).run Try.prog w = .ok (.enter 56 args) w := eg56
  have HBB : Hid (w.heap.size < B) := HBL.out.1
  clear HX U3 U1 HM HBL U2 d0 d1 d2 d3 d4 a3 a4 b0 b1 b2 b3 b4 HB H
  go_wp2
  go_loopw [42] (fun vi wr => ∃ (i : Nat) (d : List (Nat × Nat)), i ≤ T ∧ vi = .int .i64 i ∧ Hid (RS w wr B w.heap.size b1' b2' b3' b4' ⟨cc, vv, rr, E, R⟩ pg po n pc tm N fp d (sceneS ⟨cc, vv, rr, E, R⟩ f tm n N (fun i => ab2 (fp i)) i))) (fun vi _ => T - (intOf vi).toNat)
  case atStart => exact ⟨0, _, by omega, rfl, HS0⟩
  case round =>
    clear HS0
    obtain ⟨i, d, hi, rfl, HS⟩ := hrel
    by_cases hlt : i < T
    · obtain rfl := HTP.out (by omega)
      have z1 : (i : Int) < (T : Int) := by omega
      have z2 : (0 : Int) ≤ (i : Int) := by omega
      obtain ⟨h0, h1, h2, h3, h4⟩ := (HT.out.up HS.out.up) i hlt
      have HFT := HC.out.2.2 i hlt
      obtain ⟨tt, htt⟩ : ∃ tt, f i = tt := ⟨_, rfl⟩
      have HTT : Hid (f i = tt) := htt
      rw [htt] at h0 h1 h2 h3 h4 HFT
      clear htt
      obtain ⟨r, s, a, t, q⟩ := tt
      simp only at h0 h1 h2 h3 h4 HFT
      obtain ⟨d0, d1, d2, d3, d4⟩ := cells5 wr r s a t q
      have H59 : Hid (Calls Try.prog 56 #[.agg #[.float .f64 r, .float .f64 s, .float .f64 a, .float .f64 t, .float .f64 q], .pointer (some ⟨b1', 0, none⟩), .pointer (some ⟨b2', 0, none⟩), .pointer (some ⟨b3', 0, none⟩), .pointer (some ⟨b4', 0, none⟩)] (wr.alloc (.cells #[.float .f64 r, .float .f64 s, .float .f64 a, .float .f64 t, .float .f64 q] 67))
          (AL (wr.alloc (.cells #[.float .f64 r, .float .f64 s, .float .f64 a, .float .f64 t, .float .f64 q] 67)) w.heap.size B N (echoS ⟨cc, vv, rr, E, R⟩ ⟨r, s, a, t, q⟩ tm n N (fun i => ab2 (fp i)) (sceneS ⟨cc, vv, rr, E, R⟩ f tm n N (fun i => ab2 (fp i)) i) R))) :=
        t56 (HS.out.ax.but (But.of_up (Up.alloc _ _))) (HS.out.row.up (Up.alloc _ _)) HS.out.at_ HC.out.1 HC.out.2.1 HFT hR hn HN.out hN2
      clear HFT
      go_wp2_with fail
      (with_reducible refine H59.out.mono ?_)
      rintro e w4 ⟨d', rfl, HR4, HB4, HF4⟩
      have HS4 : Hid (RS w w4 B w.heap.size b1' b2' b3' b4' ⟨cc, vv, rr, E, R⟩ pg po n pc tm N fp d' (sceneS ⟨cc, vv, rr, E, R⟩ f tm n N (fun i => ab2 (fp i)) (i + 1))) := by
        have hs := HS.out.grow (Up.alloc wr (.cells #[.float .f64 r, .float .f64 s, .float .f64 a, .float .f64 t, .float .f64 q] 67))
        refine ⟨hs.ax.but HB4.out, hs.bc.but HB4.out hs.nb, hs.nb, HR4.out, hs.lo, HB4.out.up hs.up hs.lo, fun j hj => ?_⟩
        rw [HF4.out j hj, sceneS, HTT.out]
      clear HS HR4 HB4 HF4 H59
      go_wp2
      go_roundw
      case rel => exact ⟨i + 1, d', by omega, by go_num, HS4⟩
      case measure => simp [intOf]; omega
    · obtain rfl : i = T := by omega
      cases hg : gtF (ab wd) (ab 0)
      · have a0 := HS.out.bc.c0
        have a1 := HS.out.bc.c1
        have a2 := HS.out.bc.c2
        have a3 := HS.out.bc.c3
        have a4 := HS.out.bc.c4
        simp only at a0 a1 a2 a3 a4
        go_wp2_with (go_at_call 42; (with_reducible refine (t42 hE1 hE hR HN.out hN2).mono ?_); rintro e w5 ⟨A, rfl, HA, HTB, U5⟩)
        go_ret2
        refine ⟨A, B, d, rfl, ⟨?_, ?_, HS.out.lo, HTB.out, ?_, HS.out.up.trans U5.out⟩, fun k hk g hg' => ?_⟩
        · have q1 := (World.ownsRow.lt HS.out.row _ rfl).2
          have q2 := HA.out
          exact Nat.ne_of_gt (Nat.lt_of_lt_of_le q1 q2)
        · exact Nat.le_trans HS.out.up.size HA.out
        · rw [HN.out]; exact HS.out.row.up U5.out
        · rw [HS.out.at_ _ (by rw [← HN.out]; exact idx_lt hk hg')]
          unfold finalS
          rw [hg]; rfl
      · go_wp2_with (first
          | (go_at_call 41; (with_reducible refine (t41 _ _).mono ?_); rintro e w5 ⟨rfl, h5, U5⟩
             have HNS : Hid (NS w w5 w5 B N wr.heap.size seed wd 0 (sceneS ⟨cc, vv, rr, E, R⟩ f tm n N (fun i => ab2 (fp i)) i) d) := by
               have q1 := (World.ownsRow.lt HS.out.row _ rfl).2
               refine ⟨HS.out.row.up U5.out, h5.out, Nat.ne_of_lt q1, HS.out.lo, HS.out.up.size, HS.out.up.trans U5.out, fun j hj => ?_, fun _ _ _ _ _ h => h⟩
               rw [noise_zero]; exact HS.out.at_ j hj)
          | (go_at_call 40; (with_reducible refine (t40 HNS.out hN2).mono ?_); rintro e w6 ⟨d6, rfl, HR6, U6, HF6, HK6⟩
             have nb2 : w.heap.size ≠ wr.heap.size := Nat.ne_of_lt (World.block_lt_of_cell? wr _ HS.out.bc.c0)
             have nb1 := HS.out.nb
             have a0 := HK6.out _ _ _ nb1 nb2 (cell_up HS.out.bc.c0 U5.out)
             have a1 := HK6.out _ _ _ nb1 nb2 (cell_up HS.out.bc.c1 U5.out)
             have a2 := HK6.out _ _ _ nb1 nb2 (cell_up HS.out.bc.c2 U5.out)
             have a3 := HK6.out _ _ _ nb1 nb2 (cell_up HS.out.bc.c3 U5.out)
             have a4 := HK6.out _ _ _ nb1 nb2 (cell_up HS.out.bc.c4 U5.out)
             clear nb1 nb2
             simp only at a0 a1 a2 a3 a4)
          | (go_at_call 42; (with_reducible refine (t42 hE1 hE hR HN.out hN2).mono ?_); rintro e w7 ⟨A, rfl, HA, HTB, U7⟩))
        go_ret2
        refine ⟨A, B, d6, rfl, ⟨?_, ?_, HS.out.lo, HTB.out, ?_, U6.out.trans U7.out⟩, fun k hk g hg' => ?_⟩
        · have q1 := (World.ownsRow.lt HR6.out _ rfl).2
          have q2 := HA.out
          exact Nat.ne_of_gt (Nat.lt_of_lt_of_le q1 q2)
        · exact Nat.le_trans U6.out.size HA.out
        · rw [HN.out]; exact HR6.out.up U7.out
        · rw [HF6.out _ (by rw [← HN.out]; exact idx_lt hk hg')]
          unfold finalS
          rw [if_pos hg]
/-- One target, written out. -/
theorem tl_one (w : World) (r s a t q : Nat) : TL (w.alloc (.cells #[.float .f64 r, .float .f64 s, .float .f64 a, .float .f64 t, .float .f64 q] 67)) w.heap.size 1 (fun _ => ⟨r, s, a, t, q⟩) := fun i hi => by
  obtain rfl : i = 0 := by omega
  exact cells5 w r s a t q
end Go.Proofs.Ytgalgnopjcpocaa

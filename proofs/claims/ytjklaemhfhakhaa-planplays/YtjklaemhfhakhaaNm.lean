/- Next (the document's). -/
import Derived.Test.YtjklaemhfhakhaaNl
import Derived.Test.YtjklaemhfhakhaaNo
namespace Go.Proofs.Ytjklaemhfhakhaa
open Go.ChangeShapes Go.WideShapes Go.ChangeAt Go.RowKit

/-- One plan has become another one. -/
theorem RW.moved {w0 V : World} {L L4 : RL} {n : Nat} {a b : Int} {X Y : Nat → On} (h0 : RW w0 L n b Y) (h : RW V L4 n a X) (h4 : L4.Ok n) (hk : Kp (fun g => g < w0.heap.size) w0 V) (ho : ∀ g, L4.Own n g → w0.heap.size ≤ g) :
    ∃ L', RW ((V.setCell ⟨L.bp, 0, none⟩ (.slice L4.lp n L4.lc)).setCell ⟨L.bp, 1, none⟩ (.int .i64 a)) L' n a X ∧ RKept n w0 ((V.setCell ⟨L.bp, 0, none⟩ (.slice L4.lp n L4.lc)).setCell ⟨L.bp, 1, none⟩ (.int .i64 a)) L L' ∧ ∀ g, L'.Own n g → g = L.bp ∨ L4.Own n g := by
  have hbp := h0.lt
  have kz : Kp (fun g => g ≠ L.bp) V ((V.setCell ⟨L.bp, 0, none⟩ (.slice L4.lp n L4.lc)).setCell ⟨L.bp, 1, none⟩ (.int .i64 a)) := (Kp.set _ _ (fun q => q rfl) _).setCell (fun q => q rfl) _
  have hne : ∀ g, L4.Own n g → g ≠ L.bp := fun g q => by have := ho g q; omega
  have c0 : V.cell? ⟨L.bp, 0, none⟩ = some (.slice L.lp n L.lc) := hk.cell hbp h0.p0
  have c1 : V.cell? ⟨L.bp, 1, none⟩ = some (.int .i64 b) := hk.cell hbp h0.p1
  refine ⟨{ L4 with bp := L.bp }, ⟨cell_other (World.cell?_setCell_same _ _ _ c0) (Or.inr (by show 0 ≠ 1; omega)), World.cell?_setCell_same _ _ _ (cell_other c1 (Or.inr (by show 1 ≠ 0; omega))), h.ps, fun i hi => (h.at' i hi).kp kz (hne _ (Or.inr (Or.inl ⟨by omega, rfl⟩))), fun i hi => (h.wt i hi).kp kz (fun r hr => hne r (Or.inr (Or.inr ⟨i, hi, hr⟩))), h.cap, fun k => by simp only [World.frozen?_setCell]; exact hk.frozen (a := ⟨L.bp, k, none⟩) hbp h0.lt (h0.fp k), fun q k => by simp only [World.frozen?_setCell]; exact h.fl q k, Nat.lt_of_lt_of_le (Nat.lt_of_lt_of_le hbp hk.size) kz.size⟩, ⟨⟨fun q e => hne L4.bl (Or.inr (Or.inl ⟨q, rfl⟩)) e.symm, fun i hi g e => ⟨hne g (Or.inr (Or.inr ⟨i, hi, e⟩)), (h4.vp i hi g e).2⟩, h4.vv⟩, rfl, fun g q => ?_, ?_⟩, fun g q => ?_⟩
  · rcases q with rfl | ⟨q, rfl⟩ | ⟨i, hi, e⟩
    · exact Or.inl (Or.inl rfl)
    · exact Or.inr (ho _ (Or.inr (Or.inl ⟨q, rfl⟩)))
    · exact Or.inr (ho _ (Or.inr (Or.inr ⟨i, hi, e⟩)))
  · have k2 : Kp (fun g => ¬ L.Own n g ∧ g < w0.heap.size) w0 ((V.setCell ⟨L.bp, 0, none⟩ (.slice L4.lp n L4.lc)).setCell ⟨L.bp, 1, none⟩ (.int .i64 a)) := (hk.mono (fun g _ q => q.2)).two kz (fun g q _ e => q.1 (Or.inl e))
    exact k2.mono fun g hl q => ⟨q, hl⟩
  · rcases q with rfl | ⟨q, rfl⟩ | ⟨i, hi, e⟩
    · exact Or.inl rfl
    · exact Or.inr (Or.inr (Or.inl ⟨q, rfl⟩))
    · exact Or.inr (Or.inr (Or.inr ⟨i, hi, e⟩))
/-- What Next leaves. -/
def NxR (w : World) (L : RL) (n : Nat) (p : Pl) (e : Ending) (w' : World) : Prop :=
  (∃ L' X', e = .returned (.tuple #[(nextP n p).1.val, .int .i64 0]) ∧ nextE n p ≤ 1152921504606846976 ∧ Hid (RQ w' L' n (nextP n p).2 X') ∧ Hid (RKept n w w' L L')) ∨
  (1152921504606846976 < nextE n p ∧ e = .returned (.tuple #[.agg #[.int .i64 0, .int .i64 0, .int .i64 0, .bool false], .int .i64 3]) ∧ Hid (Up w w'))
theorem t27n (w : World) : Calls Try.prog 27 #[.pointer none] w (VU w (.tuple #[.agg #[.int .i64 0, .int .i64 0, .int .i64 0, .bool false], .int .i64 1])) := by
  have HS : Hid (SAt (w.alloc (.cells #[.int .i64 0, .int .i64 0, .int .i64 0, .bool false] 42)) w.heap.size ⟨0, 0, 0, false⟩) := SAt.of (heap_alloc_last w _)
  obtain ⟨s0, s1, s2, s3, sz⟩ := HS.out
  have z0 := sz 0
  have z1 := sz 1
  have z2 := sz 2
  have z3 := sz 3
  clear sz
  go_enter Try.func27, Try.ntmps27
  go_wp2_with fail
  exact bodyPost_ret (results_st_tmp Try.results27 _ _ w.heap.size _ rfl (load_sl HS.out)) rfl ⟨rfl, Up.alloc _ _⟩
theorem t27z {w : World} {L : RL} {a : Int} {X : Nat → On} (h : RW w L 0 a X) : Calls Try.prog 27 #[.pointer (some ⟨L.bp, 0, none⟩)] w (VU w (.tuple #[.agg #[.int .i64 0, .int .i64 0, .int .i64 0, .bool false], .int .i64 240])) := by
  have HS : Hid (SAt (w.alloc (.cells #[.int .i64 0, .int .i64 0, .int .i64 0, .bool false] 42)) w.heap.size ⟨0, 0, 0, false⟩) := SAt.of (heap_alloc_last w _)
  have p0 := h.p0
  have p9 := h.lt
  obtain ⟨s0, s1, s2, s3, sz⟩ := HS.out
  have z0 := sz 0
  have z1 := sz 1
  have z2 := sz 2
  have z3 := sz 3
  clear sz h
  go_enter Try.func27, Try.ntmps27
  go_wp2_with fail
  exact bodyPost_ret (results_st_tmp Try.results27 _ _ w.heap.size _ rfl (load_sl HS.out)) rfl ⟨rfl, Up.alloc _ _⟩
set_option maxRecDepth 200000 in
set_option maxHeartbeats 16000000 in
theorem t27 {w : World} {L : RL} {n : Nat} {p : Pl} {X : Nat → On} (h : RQ w L n p X) (hL : L.Ok n) (hn0 : 0 < n) (hn : n ≤ 256) (hF : Few n 800000 p) : Calls Try.prog 27 #[.pointer (some ⟨L.bp, 0, none⟩)] w (NxR w L n p) := by
  have HQ : Hid (RQ w L n p X) := h
  have HL : Hid (L.Ok n) := hL
  have HFW : Hid (Few n 800000 p) := hF
  have HU0 : Hid (Up w (w.alloc (.cells #[.int .i64 0, .int .i64 0, .int .i64 0, .bool false] 42))) := Up.alloc _ _
  have HS0 : Hid (SAt (w.alloc (.cells #[.int .i64 0, .int .i64 0, .int .i64 0, .bool false] 42)) w.heap.size ⟨0, 0, 0, false⟩) := SAt.of (heap_alloc_last w _)
  have HQ0 : Hid (RQ (w.alloc (.cells #[.int .i64 0, .int .i64 0, .int .i64 0, .bool false] 42)) L n p X) := h.up (Up.alloc _ _)
  have p0 := HQ0.out.rw'.p0
  have p9 := HQ0.out.rw'.lt
  have hnow := h.pb.now
  have C41 : Hid (Calls Try.prog 41 #[.pointer (some ⟨L.bp, 0, none⟩)] (w.alloc (.cells #[.int .i64 0, .int .i64 0, .int .i64 0, .bool false] 42)) (TwR (w.alloc (.cells #[.int .i64 0, .int .i64 0, .int .i64 0, .bool false] 42)) n p.now X)) := t41 HQ0.out.rw' hn (fun i hi => Nat.le_trans (h.abs.len hF i hi) (by omega))
  have b0 : ¬ (n : Int) = 0 := by omega
  have b1 : ¬ n = 0 := by omega
  clear h hL hF
  go_enter Try.func27, Try.ntmps27
  go_upto_region 6 with (go_at_call 41; (with_reducible refine C41.out.mono ?_); rintro e w1 ⟨L2, rfl, HW1, HL1, HO1, HU1⟩)
  have HS1 : Hid (SAt w1 w.heap.size ⟨0, 0, 0, false⟩) := HS0.out.up HU1.out
  have HUw : Hid (Up w w1) := HU0.out.trans HU1.out
  have HOw : Hid (∀ b, L2.Own n b → w.heap.size + 1 ≤ b) := fun b q => by
    have := HO1.out b q
    simpa using this
  have C42 : Hid (Calls Try.prog 42 #[.pointer (some ⟨L2.bp, 0, none⟩), .int .i64 1152921504606846976] w1 (StrB w1 L2 n p.now X 1152921504606846976)) := by
    have := t42 (lim := 1152921504606846976) HW1.out HL1.out hn0 hn HQ.out.ok hnow.1 hnow.2 (Int.le_refl _) (fun i hi => Nat.le_trans (HQ.out.abs.len HFW.out i hi) (by omega))
    exact this.mono fun _ _ h => h.b
  clear p0 p9 C41 HS0 HQ0 HU0 HU1 HO1
  go_upto_region 7 with (go_at_call 42; (with_reducible refine C42.out.mono ?_); rintro e w2 ⟨L3, X3, mi, f, z, d1, d2, d3, bo, rfl, HW2, HK2, HE1, HE2⟩)
  have HK12 : Hid (Kp (fun b => b < w.heap.size) w w2) := (Kp.of_up HUw.out).two HK2.out.kp (fun b hb _ q => by have := HOw.out b q; omega)
  have HK27 : Hid (Kp (fun b => b < w.heap.size) w ((w2.alloc (.cells #[.int .i64 mi, .int .i64 f, .int .i64 z, .bool false] 42)).alloc (.cells #[.int .i64 d1, .int .i64 d2, .int .i64 d3] 96))) := HK12.out.trans (Kp.of_up ((Up.alloc _ _).trans (Up.alloc _ _)))
  have HU7 : Hid (Up w2 ((w2.alloc (.cells #[.int .i64 mi, .int .i64 f, .int .i64 z, .bool false] 42)).alloc (.cells #[.int .i64 d1, .int .i64 d2, .int .i64 d3] 96))) := (Up.alloc _ _).trans (Up.alloc _ _)
  have HNG : Hid (¬ L2.Own n w.heap.size) := fun q => by have := HOw.out _ q; omega
  have HS : Hid (SAt ((w2.alloc (.cells #[.int .i64 mi, .int .i64 f, .int .i64 z, .bool false] 42)).alloc (.cells #[.int .i64 d1, .int .i64 d2, .int .i64 d3] 96)) w.heap.size ⟨0, 0, 0, false⟩) := (HS1.out.kp HK2.out.kp HNG.out).up HU7.out
  have HS7 : Hid (SAt ((w2.alloc (.cells #[.int .i64 mi, .int .i64 f, .int .i64 z, .bool false] 42)).alloc (.cells #[.int .i64 d1, .int .i64 d2, .int .i64 d3] 96)) w2.heap.size ⟨mi, f, z, false⟩) := (SAt.of (s := ⟨mi, f, z, false⟩) (heap_alloc_last w2 _)).up (Up.alloc _ _)
  have HD7 : Hid (DAt ((w2.alloc (.cells #[.int .i64 mi, .int .i64 f, .int .i64 z, .bool false] 42)).alloc (.cells #[.int .i64 d1, .int .i64 d2, .int .i64 d3] 96)) (w2.heap.size + 1) ⟨d3, 0, d1, 0, d2⟩) := by
    have s1 : (w2.alloc (.cells #[.int .i64 mi, .int .i64 f, .int .i64 z, .bool false] 42)).heap.size = w2.heap.size + 1 := by simp
    have := DAt.of (j := ⟨d3, 0, d1, 0, d2⟩) (heap_alloc_last (w2.alloc (.cells #[.int .i64 mi, .int .i64 f, .int .i64 z, .bool false] 42)) (.cells #[.int .i64 d1, .int .i64 d2, .int .i64 d3] 96))
    rw [s1] at this
    exact this
  have HW7 : Hid (RW ((w2.alloc (.cells #[.int .i64 mi, .int .i64 f, .int .i64 z, .bool false] 42)).alloc (.cells #[.int .i64 d1, .int .i64 d2, .int .i64 d3] 96)) L3 n p.now X3) := HW2.out.up HU7.out
  have HL3 : Hid (L3.Ok n) := HK2.out.ok
  have HB3 : Hid (L3.bp = L2.bp) := HK2.out.bp
  have HO3 : Hid (∀ b, L3.Own n b → w.heap.size + 1 ≤ b) := fun b q => by
    rcases HK2.out.own b q with q2 | q2
    · exact HOw.out b q2
    · have h1 := HS1.out.lt
      omega
  have HG2 : Hid (w.heap.size < w2.heap.size) := Nat.lt_of_lt_of_le HS1.out.lt HK2.out.kp.size
  have HN3 : Hid (¬ L3.Own n w2.heap.size) := fun q => Nat.lt_irrefl _ (HW2.out.own_lt q)
  clear C42 HW2 HK2 HU7 HS1 HK12 HW1 HL1
  generalize ((w2.alloc (.cells #[.int .i64 mi, .int .i64 f, .int .i64 z, .bool false] 42)).alloc (.cells #[.int .i64 d1, .int .i64 d2, .int .i64 d3] 96)) = W7 at *
  generalize w2.heap.size = G7 at *
  obtain ⟨G, hG⟩ : ∃ G, w.heap.size = G := ⟨_, rfl⟩
  rw [hG] at HS HG2 HO3 HNG ⊢
  have HUZ : Hid (Up w ((((W7.setCell ⟨G, 0, none⟩ (.int .i64 0)).setCell ⟨G, 1, none⟩ (.int .i64 0)).setCell ⟨G, 2, none⟩ (.int .i64 0)).setCell ⟨G, 3, none⟩ (.bool false))) := by
    have k1 : Kp (fun b => b < w.heap.size) w ((((W7.setCell ⟨G, 0, none⟩ (.int .i64 0)).setCell ⟨G, 1, none⟩ (.int .i64 0)).setCell ⟨G, 2, none⟩ (.int .i64 0)).setCell ⟨G, 3, none⟩ (.bool false)) := (((HK27.out.setCell (fun q => by omega) _).setCell (fun q => by omega) _).setCell (fun q => by omega) _).setCell (fun q => by omega) _
    exact k1.up (fun b hb => hb)
  obtain ⟨r0, r1, r2, r3, rz⟩ := HS.out
  have rz0 := rz 0
  have rz1 := rz 1
  have rz2 := rz 2
  have rz3 := rz 3
  have rl := HS.out.lt
  clear rz
  try simp only at r0 r1 r2 r3
  cases bo with
  | false =>
    obtain ⟨hx, hb, hl⟩ := HE1.out rfl
    have hfar := far_of (a := p.now) (lim := 1152921504606846976) hn0 HQ.out.abs HQ.out.pb (by rw [← hx]; exact hb) (by rw [← hx]; exact hl)
    have HERR : 1152921504606846976 < nextE n p := by
      obtain ⟨m, f', e, hr⟩ := HQ.out.pb.runs hn0
      have h1 := (hr.ends HQ.out.pb).1
      unfold nextE
      rw [e] at hfar ⊢
      simp only at hfar h1 ⊢
      omega
    clear hx hb hl hfar
    go_wp2_with fail
    exact bodyPost_ret (results_st_tmp Try.results27 _ _ G _ rfl (load_sl (HS.out.put (z := ⟨0, 0, 0, false⟩)))) rfl (Or.inr ⟨HERR, rfl, HUZ.out⟩)
  | true =>
    obtain ⟨g0, g1, g2, g3, gz⟩ := HS7.out
    have gz3 := gz 3
    have lg := HS7.out.lt
    obtain ⟨e0, e1, e2, -⟩ := HD7.out
    have lg1 := HD7.out.lt
    try simp only at g0 g1 g2 g3 e0
    clear gz
    obtain ⟨m, rfl, hstr, hd1, hz⟩ := HE2.out rfl
    obtain ⟨hruns, hA2, hR2, hw2, hm, haf, hf2, hfa, hJm, hto⟩ := hstr.to HQ.out.abs HQ.out.ok rfl hnow.2 (Int.le_refl _)
    have hleft : (X3 m).lf = (p.J m).left := by rw [hJm, jb_left hw2]
    have hzE : z = nextE n p := by
      rw [hz, hto, hleft]
      unfold nextE
      rw [hruns.eq HQ.out.pb]
    have hnx : nextP n p = (⟨m, f, z, decide (d1 < z)⟩, p.go m (z - f) z) := by
      unfold nextP
      rw [← hzE, hruns.eq HQ.out.pb, hd1, ← hJm]
      rfl
    obtain ⟨k1, k2⟩ := HQ.out.pb.left hm
    have hends := hruns.ends HQ.out.pb
    rw [show endN p.J (p.J m) (f + (p.J m).left) n = z by rw [hz, hto, hleft]] at hends
    obtain ⟨k3, k4⟩ := hends
    by_cases hzl : z ≤ 1152921504606846976
    · have hdl : z - f ≤ (X3 m).lf := by rw [hleft]; omega
      have HSTR : Hid (Str n p m f z) := ⟨hruns, k3, by rw [hz, hto, hleft]; exact Int.le_refl _⟩
      have hlen2 : (X3 m).w.length ≤ 1000000 := Nat.le_trans (hA2.len HFW.out m hm) (by omega)
      have C43 : Hid (∀ W, RW W L3 n p.now X3 → Calls Try.prog 43 #[.pointer (some ⟨L2.bp, 0, none⟩), .agg #[.int .i64 m, .int .i64 f, .int .i64 z, .bool (decide (d1 < z))]] W (RelR W L3 n z (upd X3 m (runO (X3 m) (z - f))))) := by
        intro W hW
        have := t43 hW HL3.out hn hm (hR2 m hm).1 hf2 hw2 hlen2 (f := f) (c := z) (by omega) (by omega) (by omega) hdl (decide (d1 < z))
        rw [HB3.out] at this
        exact this
      have HQQ : Hid (∀ W L', RW W L' n z (upd X3 m (runO (X3 m) (z - f))) → RQ W L' n (p.go m (z - f) z) (upd X3 m (runO (X3 m) (z - f)))) := fun W L' hW => ⟨hW, go_abs hA2 hR2 hm hw2 hdl, go_rel hR2 hm hw2 (by omega), HQ.out.pb.go HSTR.out hzl⟩
      have HNE : Hid (nextE n p ≤ 1152921504606846976) := by show nextE n p ≤ _; rw [← hzE]; exact hzl
      have HNP : Hid (nextP n p = (⟨m, f, z, decide (d1 < z)⟩, p.go m (z - f) z)) := hnx
      clear hstr hd1 hz hruns hA2 hR2 hw2 haf hf2 hfa hJm hto hleft hzE hnx k1 k2 k3 k4 hdl hlen2
      go_upto_region 10 with fail
      have HW8 : Hid (RW (W7.setCell ⟨G7, 3, none⟩ (.bool (decide (d1 < z)))) L3 n p.now X3) := HW7.out.beyond HN3.out _
      have HK8 : Hid (Kp (fun b => b < w.heap.size) w (W7.setCell ⟨G7, 3, none⟩ (.bool (decide (d1 < z))))) := HK27.out.setCell (fun q => by have := HG2.out; omega) _
      have HS8 : Hid (SAt (W7.setCell ⟨G7, 3, none⟩ (.bool (decide (d1 < z)))) G7 ⟨m, f, z, decide (d1 < z)⟩) := by
        refine ⟨cell_other g0 ?_, cell_other g1 ?_, cell_other g2 ?_, World.cell?_setCell_same _ _ _ g3, fun k => by simp only [World.frozen?_setCell]; exact HS7.out.fz k⟩
        all_goals (refine Or.inr ?_; first | (show 0 ≠ 3; omega) | (show 1 ≠ 3; omega) | (show 2 ≠ 3; omega))
      have HR8 : Hid (SAt (W7.setCell ⟨G7, 3, none⟩ (.bool (decide (d1 < z)))) G ⟨0, 0, 0, false⟩) := HS.out.kp (F := fun b => b ≠ G7) (Kp.set _ _ (fun q => q rfl) _) (by have := HG2.out; show G ≠ G7; omega)
      clear g0 g1 g2 g3 gz3 e0 e1 e2 lg lg1 HS7 HD7 HW7 HK27 r0 r1 r2 r3 rz0 rz1 rz2 rz3 rl HS HUZ
      generalize (W7.setCell ⟨G7, 3, none⟩ (.bool (decide (d1 < z)))) = W8 at *
      obtain ⟨g0, g1, g2, g3, -⟩ := HS8.out
      have lg := HS8.out.lt
      try simp only at g0 g1 g2 g3
      have HRL : Hid (G < W8.heap.size) := HR8.out.lt
      go_upto_region 11 with (go_at_call 43; (with_reducible refine (C43.out _ HW8.out).mono ?_); rintro e w4 ⟨rfl, L4, HW4, HK4⟩)
      have HO4 : Hid (∀ b, L4.Own n b → G + 1 ≤ b) := fun b q => by
        rcases HK4.out.own b q with q2 | q2
        · exact HO3.out b q2
        · have := HRL.out; omega
      have HB4 : Hid (L4.bp = L2.bp) := HK4.out.bp.trans HB3.out
      have HK9 : Hid (Kp (fun b => b < w.heap.size) w w4) := HK8.out.two HK4.out.kp (fun b hb _ q => by have := HO3.out b q; omega)
      have HS9 : Hid (SAt w4 G7 ⟨m, f, z, decide (d1 < z)⟩) := HS8.out.kp HK4.out.kp HN3.out
      have HR9 : Hid (SAt w4 G ⟨0, 0, 0, false⟩) := HR8.out.kp HK4.out.kp (fun q => by have := HO3.out G q; omega)
      have hlb := HQ.out.rw'.lt
      have u0 : w4.cell? ⟨L.bp, 0, none⟩ = some (.slice L.lp n L.lc) := HK9.out.cell hlb HQ.out.rw'.p0
      have u1 : w4.cell? ⟨L.bp, 1, none⟩ = some (.int .i64 p.now) := HK9.out.cell hlb HQ.out.rw'.p1
      have uf0 : w4.frozen? ⟨L.bp, 0, none⟩ = false := HK9.out.frozen (a := ⟨L.bp, 0, none⟩) hlb hlb (HQ.out.rw'.fp 0)
      have uf1 : w4.frozen? ⟨L.bp, 1, none⟩ = false := HK9.out.frozen (a := ⟨L.bp, 1, none⟩) hlb hlb (HQ.out.rw'.fp 1)
      have ul : L.bp < w4.heap.size := Nat.lt_of_lt_of_le hlb HK9.out.size
      have v0 := HW4.out.p0
      have v1 := HW4.out.p1
      have vl := HW4.out.lt
      rw [HB4.out] at v0 v1 vl
      obtain ⟨L9, hm1, hm2, hm3⟩ := HQ.out.rw'.moved HW4.out HK4.out.ok HK9.out (fun g q => by have := HO4.out g q; omega)
      have HM : Hid (RW ((w4.setCell ⟨L.bp, 0, none⟩ (.slice L4.lp n L4.lc)).setCell ⟨L.bp, 1, none⟩ (.int .i64 z)) L9 n z (upd X3 m (runO (X3 m) (z - f))) ∧ RKept n w ((w4.setCell ⟨L.bp, 0, none⟩ (.slice L4.lp n L4.lc)).setCell ⟨L.bp, 1, none⟩ (.int .i64 z)) L L9 ∧ ¬ L9.Own n G) := ⟨hm1, hm2, fun q => by
        rcases hm3 G q with q2 | q2
        · omega
        · have := HO4.out G q2; omega⟩
      have HNB : Hid (L.bp ≠ G ∧ L.bp ≠ G7 ∧ G ≠ G7) := by
        have := HG2.out
        exact ⟨by omega, by omega, by omega⟩
      obtain ⟨n1, n2, n3⟩ := HNB.out
      clear hm1 hm2 hm3 g0 g1 g2 g3 lg hlb
      obtain ⟨g0, g1, g2, g3, -⟩ := HS9.out
      have lg := HS9.out.lt
      obtain ⟨r0, r1, r2, r3, rz⟩ := HR9.out
      have rz0 := rz 0
      have rz1 := rz 1
      have rz2 := rz 2
      have rz3 := rz 3
      have rl := HR9.out.lt
      clear rz
      try simp only at g0 g1 g2 g3 r0 r1 r2 r3
      go_wp2_with fail
      have HSF : SAt ((((((w4.setCell ⟨L.bp, 0, none⟩ (.slice L4.lp n L4.lc)).setCell ⟨L.bp, 1, none⟩ (.int .i64 z)).setCell ⟨G, 0, none⟩ (.int .i64 m)).setCell ⟨G, 1, none⟩ (.int .i64 f)).setCell ⟨G, 2, none⟩ (.int .i64 z)).setCell ⟨G, 3, none⟩ (.bool (decide (d1 < z)))) G ⟨m, f, z, decide (d1 < z)⟩ := (HR9.out.kp (F := fun b => b ≠ L.bp) ((Kp.set _ _ (fun q => q rfl) _).setCell (fun q => q rfl) _) (by show G ≠ L.bp; omega)).put (z := ⟨m, f, z, decide (d1 < z)⟩)
      refine bodyPost_ret (results_st_tmp Try.results27 _ _ G _ rfl (load_sl HSF)) rfl (Or.inl ⟨L9, upd X3 m (runO (X3 m) (z - f)), ?_, HNE.out, ?_, ?_⟩)
      · rw [HNP.out]; rfl
      · rw [HNP.out]
        exact HQQ.out _ _ ((((HM.out.1.beyond HM.out.2.2 _).beyond HM.out.2.2 _).beyond HM.out.2.2 _).beyond HM.out.2.2 _)
      · have g6 : w.heap.size ≤ G := by omega
        exact (((HM.out.2.1.beyond g6 _).beyond g6 _).beyond g6 _).beyond g6 _
    · have HERR : 1152921504606846976 < nextE n p := by rw [← hzE]; omega
      have hz3 : 1152921504606846976 < z := by omega
      clear hstr hd1 hz hruns hA2 hR2 hw2 haf hf2 hfa hJm hto hleft hzE hnx k1 k2 k3 k4
      go_wp2_with fail
      exact bodyPost_ret (results_st_tmp Try.results27 _ _ G _ rfl (load_sl (HS.out.put (z := ⟨0, 0, 0, false⟩)))) rfl (Or.inr ⟨HERR, rfl, HUZ.out⟩)
end Go.Proofs.Ytjklaemhfhakhaa
/- Set (the document's). -/
namespace Go.Proofs.Ytjklaemhfhakhaa
open Go.ChangeShapes Go.WideShapes Go.ChangeAt Go.RowKit

theorem RW.setT {w : World} {L : RL} {n : Nat} {a : Int} {X : Nat → On} (h : RW w L n a X) (hL : L.Ok n) {i : Nat} (hi : i < n) (e l r : Int) :
    RW (((w.setCell ⟨L.bl, i * 6, none⟩ (.int .i64 e)).setCell ⟨L.bl, i * 6 + 1, none⟩ (.int .i64 l)).setCell ⟨L.bl, i * 6 + 2, none⟩ (.int .i64 r)) L n a (upd X i (setO (X i) e l r)) ∧ RKept n w (((w.setCell ⟨L.bl, i * 6, none⟩ (.int .i64 e)).setCell ⟨L.bl, i * 6 + 1, none⟩ (.int .i64 l)).setCell ⟨L.bl, i * 6 + 2, none⟩ (.int .i64 r)) L L := by
  have hk : Kp (fun b => b ≠ L.bl) w (((w.setCell ⟨L.bl, i * 6, none⟩ (.int .i64 e)).setCell ⟨L.bl, i * 6 + 1, none⟩ (.int .i64 l)).setCell ⟨L.bl, i * 6 + 2, none⟩ (.int .i64 r)) := ((Kp.set _ _ (fun q => q rfl) _).setCell (fun q => q rfl) _).setCell (fun q => q rfl) _
  have o := h.at' i hi
  have A : ∀ x y : Nat, x ≠ y → ((⟨L.bl, i * 6 + x, none⟩ : Addr).block ≠ (⟨L.bl, i * 6 + y, none⟩ : Addr).block ∨ (⟨L.bl, i * 6 + x, none⟩ : Addr).off ≠ (⟨L.bl, i * 6 + y, none⟩ : Addr).off) := fun x y q => Or.inr (by show i * 6 + x ≠ i * 6 + y; omega)
  have B : ∀ y : Nat, 0 ≠ y → ((⟨L.bl, i * 6, none⟩ : Addr).block ≠ (⟨L.bl, i * 6 + y, none⟩ : Addr).block ∨ (⟨L.bl, i * 6, none⟩ : Addr).off ≠ (⟨L.bl, i * 6 + y, none⟩ : Addr).off) := fun y q => Or.inr (by show i * 6 ≠ i * 6 + y; omega)
  have C : ∀ x : Nat, x ≠ 0 → ((⟨L.bl, i * 6 + x, none⟩ : Addr).block ≠ (⟨L.bl, i * 6, none⟩ : Addr).block ∨ (⟨L.bl, i * 6 + x, none⟩ : Addr).off ≠ (⟨L.bl, i * 6, none⟩ : Addr).off) := fun x q => Or.inr (by show i * 6 + x ≠ i * 6; omega)
  have := h.one hL hi (x' := setO (X i) e l r) (v' := L.V i) (hk.mono (fun b _ q => q.1)) (fun j hj hji k hk' => by
      rw [World.cell?_setCell_other _ _ _ _ (fun q => by simp only [Addr.mk.injEq] at q; omega), World.cell?_setCell_other _ _ _ _ (fun q => by simp only [Addr.mk.injEq] at q; omega), World.cell?_setCell_other _ _ _ _ (fun q => by simp only [Addr.mk.injEq] at q; omega)])
    ⟨cell_other (cell_other (World.cell?_setCell_same _ _ _ o.e) (B 1 (by omega))) (B 2 (by omega)), cell_other (World.cell?_setCell_same _ _ _ (cell_other o.l (C 1 (by omega)))) (A 1 2 (by omega)), World.cell?_setCell_same _ _ _ (cell_other (cell_other o.r (C 2 (by omega))) (A 2 1 (by omega))), cell_other (cell_other (cell_other o.nx (C 3 (by omega))) (A 3 1 (by omega))) (A 3 2 (by omega)), cell_other (cell_other (cell_other o.wv (C 4 (by omega))) (A 4 1 (by omega))) (A 4 2 (by omega)), cell_other (cell_other (cell_other o.lf (C 5 (by omega))) (A 5 1 (by omega))) (A 5 2 (by omega))⟩
    ((h.wt i hi).kp hk (fun g hg => (hL.vp i hi g hg).2)) (fun k => by simp only [World.frozen?_setCell]; exact h.fl (by omega) k) (fun g hg => Or.inl hg)
  rwa [RL.setV_self] at this
theorem t28n (i e l r : Int) (w : World) : Calls Try.prog 28 #[.pointer none, .int .i64 i, .agg #[.int .i64 e, .int .i64 l, .int .i64 r]] w (VU w (.int .i64 1)) := by
  go_enter Try.func28, Try.ntmps28
  go_wp2
  go_ret
  exact ⟨rfl, Up.alloc _ _⟩
set_option maxHeartbeats 4000000 in
theorem t28e {w : World} {L : RL} {n : Nat} {a : Int} {X : Nat → On} (h : RW w L n a X) {i e l r : Int} (hb : i < 0 ∨ (n : Int) ≤ i ∨ ¬ MayT e l) : Calls Try.prog 28 #[.pointer (some ⟨L.bp, 0, none⟩), .int .i64 i, .agg #[.int .i64 e, .int .i64 l, .int .i64 r]] w (VU w (.int .i64 240)) := by
  have p0 := h.p0
  have p9 := h.lt
  have HT : Hid (TkAt (w.alloc (.cells #[.int .i64 e, .int .i64 l, .int .i64 r] 26)) w.heap.size 0 ⟨e, l, r⟩) := by
    have z := heap_alloc_last w (.cells #[.int .i64 e, .int .i64 l, .int .i64 r] 26)
    exact ⟨(row_cell z 0).1, by rw [Nat.zero_add]; exact (row_cell z 1).1, by rw [Nat.zero_add]; exact (row_cell z 2).1⟩
  clear h
  by_cases c1 : i < 0
  · clear hb
    go_enter Try.func28, Try.ntmps28
    go_wp2
    go_ret
    exact ⟨rfl, Up.alloc _ _⟩
  · by_cases c2 : (n : Int) ≤ i
    · clear hb
      go_enter Try.func28, Try.ntmps28
      go_wp2
      go_ret
      exact ⟨rfl, Up.alloc _ _⟩
    · have hm : ¬ MayT e l := by
        rcases hb with q | q | q
        · exact absurd q c1
        · exact absurd q c2
        · exact q
      clear hb
      go_enter Try.func28, Try.ntmps28
      go_wp2_with (go_at_call 26; (with_reducible refine (t26n r hm _).mono ?_); rintro q w1 ⟨rfl, HU1⟩)
      go_ret
      exact ⟨rfl, (Up.alloc _ _).trans HU1.out⟩
set_option maxRecDepth 100000 in
set_option maxHeartbeats 4000000 in
theorem t28 {w : World} {L : RL} {n : Nat} {a : Int} {X : Nat → On} (h : RW w L n a X) (hL : L.Ok n) (hn : n ≤ 256) (hok : ∀ i, i < n → (X i).Ok a) (ha0 : 0 ≤ a) (ha : a ≤ 1152921504606846976) (hlen : ∀ i, i < n → (X i).w.length ≤ 900000) {i : Nat} (hi : i < n) {e l : Int} (r : Int) (hm : MayT e l) :
    Calls Try.prog 28 #[.pointer (some ⟨L.bp, 0, none⟩), .int .i64 i, .agg #[.int .i64 e, .int .i64 l, .int .i64 r]] w (fun en w' => en = .returned (.int .i64 0) ∧ ∃ L', Hid (RW w' L' n a (upd (relX X a n) i (setO (relX X a n i) e l r))) ∧ Hid (RKept n w w' L L')) := by
  have HW0 : Hid (RW w L n a X) := h
  have HL : Hid (L.Ok n) := hL
  have HT : Hid (TkAt (w.alloc (.cells #[.int .i64 e, .int .i64 l, .int .i64 r] 26)) w.heap.size 0 ⟨e, l, r⟩) := by
    have z := heap_alloc_last w (.cells #[.int .i64 e, .int .i64 l, .int .i64 r] 26)
    exact ⟨(row_cell z 0).1, by rw [Nat.zero_add]; exact (row_cell z 1).1, by rw [Nat.zero_add]; exact (row_cell z 2).1⟩
  have p0 := h.p0
  have p1 := h.p1
  have p9 := h.lt
  have HNG : Hid (¬ L.Own n w.heap.size) := fun q => Nat.lt_irrefl _ (h.own_lt q)
  have HMM : Hid (MayT e l) := hm
  have C44 : Hid (∀ W, RW W L n a X → Calls Try.prog 44 #[.pointer (some ⟨L.bp, 0, none⟩), .int .i64 a] W (RelR W L n a (relX X a n))) := fun W hW => t44 hW HL.out hn hok (by omega) (Int.le_refl _) ha (fun i hi => Nat.le_trans (hlen i hi) (by omega))
  have b0 : ¬ (i : Int) < 0 := by omega
  have b1 : ¬ (n : Int) ≤ (i : Int) := by omega
  have b2 : (i : Int) < (n : Int) := by omega
  clear h hL hm hok hlen
  go_enter Try.func28, Try.ntmps28
  go_upto_region 6 with (first
    | (go_at_call 26; (with_reducible refine (t26y r HMM.out _).mono ?_); rintro q w1 ⟨rfl, HU1⟩; (have HU : Hid (Up w w1) := (Up.alloc _ _).trans HU1.out); (have HW1 : Hid (RW w1 L n a X) := HW0.out.up HU.out); (have HT1 := HT.out.up HU1.out); (have HTT : Hid _ := HT1); clear HT1; (have p1 := HW1.out.p1); (have p9 := HW1.out.lt))
    | (go_at_call 44; (with_reducible refine (C44.out _ HW1.out).mono ?_); rintro q w2 ⟨rfl, L2, HW2, HK2⟩))
  have HT2 : Hid (TkAt w2 w.heap.size 0 ⟨e, l, r⟩) := by
    obtain ⟨t0, t1, t2⟩ := HTT.out
    exact ⟨HK2.out.kp.cell HNG.out t0, HK2.out.kp.cell HNG.out t1, HK2.out.kp.cell HNG.out t2⟩
  obtain ⟨t0, t1, t2⟩ := HT2.out
  simp only [Nat.zero_add] at t0 t1 t2
  have u0 := HW2.out.p0
  have u9 := HW2.out.lt
  rw [HW2.out.ps (by omega), HK2.out.bp] at u0
  rw [HK2.out.bp] at u9
  have ull := HW2.out.ll (by omega)
  obtain ⟨x0, x1, x2, -, -, -⟩ := HW2.out.at' i hi
  have f0 := HW2.out.fl (by omega) (i * 6)
  have f1 := HW2.out.fl (by omega) (i * 6 + 1)
  have f2 := HW2.out.fl (by omega) (i * 6 + 2)
  clear p0 p1 p9
  go_region
  go_wp2_with fail
  go_ret
  obtain ⟨m1, m2⟩ := HW2.out.setT HK2.out.ok hi e l r
  exact ⟨rfl, L2, m1.up (Up.drew _), ((RKept.of_up HL.out HU.out).trans (HK2.out.trans m2)).upw (Up.drew _)⟩
end Go.Proofs.Ytjklaemhfhakhaa

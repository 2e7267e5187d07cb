/- change, where a row more is laid. -/
import Derived.Test.YtjklaemhfhakhaaKc
import Derived.Deep.DeepCutAuto
namespace Go.Proofs.Ytjklaemhfhakhaa
open Go.ChangeShapes Go.WideShapes Go.ChangeAt Go.RowKit

theorem PW.more {W w' : World} {L : Ly} {n : Nat} {p : Pl} (h : PW W L n p) (hL : L.Ok n) {i : Nat} (hi : i < n) {z : Rw} {g o c : Nat} (ha : AppR W w' (L.br i) ((p.c i).hd :: (p.c i).tl) z g o c) :
    PW (w'.setCell ⟨L.bt, i * 2, none⟩ (.slice (some ⟨g, o, none⟩) ((p.c i).tl.length + 2) c)) (L.move i g o c) n (p.set i ((p.c i).more z)) ∧ KeptG n W (w'.setCell ⟨L.bt, i * 2, none⟩ (.slice (some ⟨g, o, none⟩) ((p.c i).tl.length + 2) c)) L (L.move i g o c) := by
  have hbt := h.lt
  have hrt := hL.rt i hi
  have gne : g ≠ L.bt ∧ g ≠ L.bp ∧ ∀ j, j < n → j ≠ i → g ≠ L.br j := by
    rcases ha.at' with rfl | q
    · exact ⟨hrt, hL.rp i hi, fun j hj hji => hL.rr i j hi hj (fun e => hji e.symm)⟩
    · exact ⟨by omega, by have := h.lp; omega, fun j hj _ => by have := h.lr hj; omega⟩
  have hk : Kp (fun b => b ≠ L.bt ∧ b ≠ L.br i) W (w'.setCell ⟨L.bt, i * 2, none⟩ (.slice (some ⟨g, o, none⟩) ((p.c i).tl.length + 2) c)) := (ha.kp.mono (fun k _ q => q.2)).setCell (fun q => q.1 rfl) _
  have hbb : ∀ k, w'.cell? ⟨L.bt, k, none⟩ = W.cell? ⟨L.bt, k, none⟩ := fun k => World.cell?_of_block (a := ⟨L.bt, k, none⟩) (ha.kp.block L.bt (fun e => hrt e.symm) hbt)
  refine ⟨h.grown hL hi z hk (fun k hk' => ?_) ?_ (fun k => ?_) (fun k => ?_) (fun j y hy => ?_) ?_ (fun k hk' => ?_), ⟨Ly.move_ok hL gne.2.1 gne.1 gne.2.2, rfl, fun b hb => ?_, ?_⟩⟩
  · rw [World.cell?_setCell_other _ _ _ _ (fun e => hk' (by simp only [Addr.mk.injEq] at e; omega))]
    exact hbb k
  · exact World.cell?_setCell_same _ _ _ ((hbb _).trans (h.cr i hi))
  · rw [World.frozen?_setCell]
    exact ha.kp.frozen (a := ⟨L.bt, k, none⟩) (fun e => hrt e.symm) hbt (h.ft k)
  · rw [World.frozen?_setCell]
    exact ha.fr k
  · exact (ha.rows j y hy).off (Or.inl gne.1)
  · have := ha.cap
    simp only [List.length_cons] at this
    exact this
  · exact some_off (ha.sp k hk') (Or.inl gne.1)
  · rcases Ly.move_own hi hb with q | rfl
    · exact Or.inl q
    · rcases ha.at' with q | q
      · exact Or.inl (q ▸ Or.inr (Or.inr ⟨i, hi, rfl⟩))
      · exact Or.inr q
  · exact hk.mono fun k _ q => ⟨fun e => q (Or.inr (Or.inl e)), fun e => q (Or.inr (Or.inr ⟨i, hi, e⟩))⟩
/-- What change leaves. -/
def ChR (w : World) (L : Ly) (n : Nat) (p' : Pl) (v : Value) (e : Ending) (w' : World) : Prop := e = .returned v ∧ ∃ L', Hid (PW w' L' n p') ∧ Hid (KeptG n w w' L L')
theorem KeptG.after {n : Nat} {w w1 w2 : World} {L L2 : Ly} (hu : Up w w1) (k : KeptG n w1 w2 L L2) : KeptG n w w2 L L2 :=
  ⟨k.ok, k.bp, fun b hb => by
    rcases k.own b hb with q | q
    · exact Or.inl q
    · exact Or.inr (Nat.le_trans hu.size q), (Kp.of_up hu).trans k.kp⟩
set_option maxHeartbeats 4000000 in
theorem t40c {w : World} {L : Ly} {n : Nat} {p : Pl} (h : PW w L n p) (hL : L.Ok n) {i : Nat} (hi : i < n) (hm : (p.c i).tl.length ≤ 1000000) {now : Int} (h0 : 0 ≤ (p.c i).last.nx) (h1 : (p.c i).last.nx ≤ now) (h2 : now ≤ 1152921504606846976) (he : 1 ≤ (p.c i).last.e) (he2 : (p.c i).last.e ≤ 1099511627776) (e l r : Int) (hne : ¬ ((p.c i).last.e = e ∧ (p.c i).last.l = l ∧ (p.c i).last.r = r)) :
    Calls Try.prog 40 #[.pointer (some ⟨L.bt, i * 2, none⟩), .int .i64 now, .agg #[.int .i64 e, .int .i64 l, .int .i64 r]] w (ChR w L n (p.set i ((p.c i).more ⟨aft (p.c i).last.nx (p.c i).last.e now, e, l, r⟩)) (.tuple #[])) := by
  have H : Hid (PW w L n p) := h
  have HL : Hid (L.Ok n) := hL
  have c1 := h.cr i hi
  have HR := h.rw' i hi (p.c i).tl.length (p.c i).last (p.c i).last_at
  have l1 := h.lt
  have l2 := h.lr hi
  have C52 : ∀ W, Hid (Calls Try.prog 52 #[.agg #[.int .i64 (p.c i).last.nx, .int .i64 (p.c i).last.e, .int .i64 (p.c i).last.l, .int .i64 (p.c i).last.r], .int .i64 now] W (VU W (.int .i64 (aft (p.c i).last.nx (p.c i).last.e now)))) := fun W => t52 _ _ h0 h1 h2 he he2 W
  obtain ⟨T, hT⟩ : ∃ T, (p.c i).tl.length = T := ⟨_, rfl⟩
  have HT : Hid ((p.c i).tl.length = T) := hT
  generalize haft : aft (p.c i).last.nx (p.c i).last.e now = A at *
  obtain ⟨x, hx⟩ : ∃ x, (p.c i).last = x := ⟨_, rfl⟩
  rw [hx] at HR C52 hne h1
  obtain ⟨nx, ea, la, ra⟩ := x
  rw [hT] at c1 HR hm
  obtain ⟨c3, c4, c5, c6⟩ := HR
  simp only at c3 c4 c5 c6 hne h1 C52
  clear h hL hT hx he he2 h0 haft h2
  have q1 : (((T + 1 : Nat) : Int)) - 1 = (T : Int) := by omega
  have q2 : IntKind.i64.wrap (T : Int) = (T : Int) := by rw [IntKind.wrap_i64]; omega
  have q3 : (T : Int) < ((T + 1 : Nat) : Int) := by omega
  have q4 : (0 : Int) ≤ (T : Int) := by omega
  have q5 : ¬ now < nx := by omega
  clear h1
  by_cases a1 : ea = e
  · obtain rfl : e = ea := a1.symm
    by_cases a2 : la = l
    · obtain rfl : l = la := a2.symm
      have a3 : ¬ ra = r := fun q => hne ⟨rfl, rfl, q⟩
      clear hne a1 a2
      go_enter Try.func40, Try.ntmps40
      go_wp2_with fail
      have HU9 : Hid (Up w ((w.alloc (.cells #[.int .i64 e, .int .i64 l, .int .i64 r] 26)).alloc (.cells #[.int .i64 nx, .int .i64 e, .int .i64 l, .int .i64 ra] 67))) := (Up.alloc _ _).trans (Up.alloc _ _)
      have HT9 : Hid (TkAt ((w.alloc (.cells #[.int .i64 e, .int .i64 l, .int .i64 r] 26)).alloc (.cells #[.int .i64 nx, .int .i64 e, .int .i64 l, .int .i64 ra] 67)) w.heap.size 0 ⟨e, l, r⟩) := by
        have z := heap_alloc_last w (.cells #[.int .i64 e, .int .i64 l, .int .i64 r] 26)
        have : TkAt (w.alloc (.cells #[.int .i64 e, .int .i64 l, .int .i64 r] 26)) w.heap.size 0 ⟨e, l, r⟩ := ⟨(row_cell z 0).1, by rw [Nat.zero_add]; exact (row_cell z 1).1, by rw [Nat.zero_add]; exact (row_cell z 2).1⟩
        exact this.up (Up.alloc _ _)
      have HR9 : Hid (RowAt ((w.alloc (.cells #[.int .i64 e, .int .i64 l, .int .i64 r] 26)).alloc (.cells #[.int .i64 nx, .int .i64 e, .int .i64 l, .int .i64 ra] 67)) (w.heap.size + 1) 0 ⟨nx, e, l, ra⟩) := by
        have s1 : (w.alloc (.cells #[.int .i64 e, .int .i64 l, .int .i64 r] 26)).heap.size = w.heap.size + 1 := by simp
        have z := heap_alloc_last (w.alloc (.cells #[.int .i64 e, .int .i64 l, .int .i64 r] 26)) (.cells #[.int .i64 nx, .int .i64 e, .int .i64 l, .int .i64 ra] 67)
        rw [s1] at z
        exact ⟨(row_cell z 0).1, (row_cell z 1).1, (row_cell z 2).1, (row_cell z 3).1⟩
      have HP9 : Hid (PW _ L n p) := H.out.up HU9.out
      have k1 := cell_up c1 HU9.out
      have K1 : Hid _ := k1
      clear k1
      have HBT : Hid (L.bt ≠ L.br i) := fun q => HL.out.rt i hi q.symm
      clear c1 c3 c4 c5 c6
      generalize hW9 : (w.alloc (.cells #[.int .i64 e, .int .i64 l, .int .i64 r] 26)).alloc (.cells #[.int .i64 nx, .int .i64 e, .int .i64 l, .int .i64 ra] 67) = W9 at *
      clear hW9
      obtain ⟨G, hG⟩ : ∃ G, w.heap.size = G := ⟨_, rfl⟩
      rw [hG] at HT9 HR9 ⊢
      refine wp_region_shut 12 [(0, none), (1, none), (2, none), (3, none), (4, some false), (5, some false), (6, none), (8, some false), (7, some true), (9, none), (10, some true), (11, some true)] (fun v => RowAt v (G + 1) 0 ⟨nx, e, l, ra⟩ ∧ TkAt v G 0 ⟨e, l, r⟩ ∧ v.cell? ⟨L.bt, i * 2, none⟩ = some (.slice (some ⟨L.br i, L.ro i, none⟩) (T + 1) (L.rc i))) (by kernel_rfl) (by decide) rfl (by kernel_rfl) (fun _ _ d _ _ h => by cases d <;> exact h) ⟨HR9.out.up (Up.drew _), HT9.out.up (Up.drew _), cell_up K1.out (Up.drew _)⟩ ?_
      refine OrdS.looks (.pointer (some ⟨L.bt, i * 2, none⟩)) (some 55) _ rfl rfl (Or.inl ⟨by kernel_rfl, fun w' hS => ?_⟩) ?_
      · go_simp
      refine OrdS.looks (.pointer (some ⟨L.bt, i * 2, none⟩)) (some 56) _ rfl rfl (Or.inl ⟨by kernel_rfl, fun w' hS => ?_⟩) ?_
      · go_simp
      refine OrdS.looks (.pointer (some ⟨L.bt, i * 2, none⟩)) (some 57) _ rfl rfl (Or.inl ⟨by kernel_rfl, fun w' hS => ?_⟩) ?_
      · go_simp
      refine OrdS.looks (.pointer (some ⟨L.bt, i * 2, none⟩)) (some 58) _ rfl rfl (Or.inl ⟨by kernel_rfl, fun w' hS => ?_⟩) ?_
      · go_simp
      refine OrdS.reads (.slice (some ⟨L.br i, L.ro i, none⟩) (T + 1) (L.rc i)) (some 59) _ rfl rfl (Or.inl ⟨by kernel_rfl, fun w' hS => ?_⟩) ?_
      · obtain ⟨-, -, z⟩ := hS
        go_simp
      refine OrdS.reads (.agg #[.int .i64 nx, .int .i64 e, .int .i64 l, .int .i64 ra]) (some 60) _ rfl rfl (Or.inl ⟨by kernel_rfl, fun w' hS => ?_⟩) ?_
      · obtain ⟨⟨z0, z1, z2, z3⟩, -, -⟩ := hS
        simp only [Nat.zero_add] at z0 z1 z2 z3
        go_simp
      refine OrdS.looks (.int .i64 now) (some 61) _ rfl rfl (Or.inl ⟨by kernel_rfl, fun w' hS => ?_⟩) ?_
      · go_simp
      refine OrdS.reads (.agg #[.int .i64 e, .int .i64 l, .int .i64 r]) (some 63) _ rfl rfl (Or.inl ⟨by kernel_rfl, fun w' hS => ?_⟩) ?_
      · obtain ⟨-, ⟨z0, z1, z2⟩, -⟩ := hS
        simp only [Nat.zero_add] at z0 z1 z2
        go_simp
      simp only [Act.put, List.setIfInBounds_toArray, List.set_cons_succ, List.set_cons_zero]
      refine OrdS.does ?_
      refine wpOp_callG (f := 52) (some 62) rfl rfl (by kernel_rfl) rfl #[.agg #[.int .i64 nx, .int .i64 e, .int .i64 l, .int .i64 ra], .int .i64 now] (by kernel_rfl) (enters Try.func52 (by kernel_rfl) (by kernel_rfl) _ _) ?_
      refine (C52 _).out.mono ?_
      rintro q w3 ⟨rfl, HU3⟩
      have HV3 : Hid (Up W9 w3) := (Up.drew _).trans HU3.out
      clear HU3
      refine ⟨_, rfl, ⟨HR9.out.up HV3.out, HT9.out.up HV3.out, cell_up K1.out HV3.out⟩, ?_⟩
      simp only [Act.put, List.setIfInBounds_toArray, List.set_cons_succ, List.set_cons_zero]
      refine OrdS.looks (.agg #[.int .i64 A, .int .i64 e, .int .i64 l, .int .i64 r]) (some 64) _ rfl rfl (Or.inl ⟨by kernel_rfl, fun w' hS => ?_⟩) ?_
      · go_simp
      simp only [Act.put, List.setIfInBounds_toArray, List.set_cons_succ, List.set_cons_zero]
      refine OrdS.does ?_
      refine wpOp_one (v := .slice (some ⟨w3.heap.size, 0, none⟩) 1 1) (w' := w3.alloc (.cells #[.int .i64 A, .int .i64 e, .int .i64 l, .int .i64 r] 67)) (some 65) rfl rfl rfl (by go_simp) ?_
      have hz : RowAt (w3.alloc (.cells #[.int .i64 A, .int .i64 e, .int .i64 l, .int .i64 r] 67)) w3.heap.size 0 ⟨A, e, l, r⟩ := by
        have z := heap_alloc_last w3 (.cells #[.int .i64 A, .int .i64 e, .int .i64 l, .int .i64 r] 67)
        exact ⟨(row_cell z 0).1, (row_cell z 1).1, (row_cell z 2).1, (row_cell z 3).1⟩
      have HVV : Hid (Up W9 (w3.alloc (.cells #[.int .i64 A, .int .i64 e, .int .i64 l, .int .i64 r] 67))) := HV3.out.trans (Up.alloc _ _)
      clear HV3
      generalize w3.alloc (.cells #[.int .i64 A, .int .i64 e, .int .i64 l, .int .i64 r] 67) = V at *
      generalize w3.heap.size = GB at *
      clear w3
      have HPV : Hid (PW V L n p) := HP9.out.up HVV.out
      refine ⟨⟨HR9.out.up HVV.out, HT9.out.up HVV.out, cell_up K1.out HVV.out⟩, ?_⟩
      simp only [Act.put, List.setIfInBounds_toArray, List.set_cons_succ, List.set_cons_zero]
      refine OrdS.does ?_
      refine wpOp_row (some 66) rfl rfl rfl _ _ rfl (D := (p.c i).hd :: (p.c i).tl) (z := ⟨A, e, l, r⟩) (b := GB) rfl rfl (by rw [List.length_cons, HT.out]) (HPV.out.rw' i hi) hz (HPV.out.sp i hi) (HPV.out.fr i hi) (HPV.out.lr hi) (by omega) ?_
      intro g' o' c' w5 HA
      have h5 : ∀ {a : Addr} {x : Value}, a.block ≠ L.br i → W9.cell? a = some x → w5.cell? a = some x := fun hb hc => HA.out.kp.cell hb (cell_up hc HVV.out)
      have n1 : G ≠ L.br i := by omega
      have n2 : G + 1 ≠ L.br i := by omega
      have y1 : w5.cell? ⟨L.bt, i * 2, none⟩ = some (.slice (some ⟨L.br i, L.ro i, none⟩) (T + 1) (L.rc i)) := h5 HBT.out K1.out
      have y2 : w5.frozen? ⟨L.bt, i * 2, none⟩ = false := HA.out.kp.frozen (a := ⟨L.bt, i * 2, none⟩) HBT.out HPV.out.lt (HPV.out.ft _)
      have y3 : L.bt < w5.heap.size := Nat.lt_of_lt_of_le HPV.out.lt HA.out.kp.size
      refine ⟨⟨⟨h5 n2 HR9.out.nx, h5 n2 HR9.out.e, h5 n2 HR9.out.l, h5 n2 HR9.out.r⟩, ⟨h5 n1 HT9.out.c0, h5 n1 HT9.out.c1, h5 n1 HT9.out.c2⟩, y1⟩, ?_⟩
      obtain ⟨m1, m2⟩ := HPV.out.more HL.out hi HA.out
      rw [HT.out] at m1 m2
      have M1 : Hid _ := m1
      have M2 : Hid _ := m2
      clear m1 m2 h5
      simp only [Act.put, List.setIfInBounds_toArray, List.set_cons_succ, List.set_cons_zero]
      refine OrdS.ends ?_
      simp only [List.drop_succ_cons, List.drop_zero]
      go_wp2_with fail
      go_end0
      exact ⟨rfl, _, M1, KeptG.after (HU9.out.trans HVV.out) M2.out⟩
    · clear hne a1
      go_enter Try.func40, Try.ntmps40
      go_wp2_with fail
      have HU9 : Hid (Up w ((w.alloc (.cells #[.int .i64 e, .int .i64 l, .int .i64 r] 26)).alloc (.cells #[.int .i64 nx, .int .i64 e, .int .i64 la, .int .i64 ra] 67))) := (Up.alloc _ _).trans (Up.alloc _ _)
      have HT9 : Hid (TkAt ((w.alloc (.cells #[.int .i64 e, .int .i64 l, .int .i64 r] 26)).alloc (.cells #[.int .i64 nx, .int .i64 e, .int .i64 la, .int .i64 ra] 67)) w.heap.size 0 ⟨e, l, r⟩) := by
        have z := heap_alloc_last w (.cells #[.int .i64 e, .int .i64 l, .int .i64 r] 26)
        have : TkAt (w.alloc (.cells #[.int .i64 e, .int .i64 l, .int .i64 r] 26)) w.heap.size 0 ⟨e, l, r⟩ := ⟨(row_cell z 0).1, by rw [Nat.zero_add]; exact (row_cell z 1).1, by rw [Nat.zero_add]; exact (row_cell z 2).1⟩
        exact this.up (Up.alloc _ _)
      have HR9 : Hid (RowAt ((w.alloc (.cells #[.int .i64 e, .int .i64 l, .int .i64 r] 26)).alloc (.cells #[.int .i64 nx, .int .i64 e, .int .i64 la, .int .i64 ra] 67)) (w.heap.size + 1) 0 ⟨nx, e, la, ra⟩) := by
        have s1 : (w.alloc (.cells #[.int .i64 e, .int .i64 l, .int .i64 r] 26)).heap.size = w.heap.size + 1 := by simp
        have z := heap_alloc_last (w.alloc (.cells #[.int .i64 e, .int .i64 l, .int .i64 r] 26)) (.cells #[.int .i64 nx, .int .i64 e, .int .i64 la, .int .i64 ra] 67)
        rw [s1] at z
        exact ⟨(row_cell z 0).1, (row_cell z 1).1, (row_cell z 2).1, (row_cell z 3).1⟩
      have HP9 : Hid (PW _ L n p) := H.out.up HU9.out
      have k1 := cell_up c1 HU9.out
      have K1 : Hid _ := k1
      clear k1
      have HBT : Hid (L.bt ≠ L.br i) := fun q => HL.out.rt i hi q.symm
      clear c1 c3 c4 c5 c6
      generalize hW9 : (w.alloc (.cells #[.int .i64 e, .int .i64 l, .int .i64 r] 26)).alloc (.cells #[.int .i64 nx, .int .i64 e, .int .i64 la, .int .i64 ra] 67) = W9 at *
      clear hW9
      obtain ⟨G, hG⟩ : ∃ G, w.heap.size = G := ⟨_, rfl⟩
      rw [hG] at HT9 HR9 ⊢
      refine wp_region_shut 12 [(0, none), (1, none), (2, none), (3, none), (4, some false), (5, some false), (6, none), (8, some false), (7, some true), (9, none), (10, some true), (11, some true)] (fun v => RowAt v (G + 1) 0 ⟨nx, e, la, ra⟩ ∧ TkAt v G 0 ⟨e, l, r⟩ ∧ v.cell? ⟨L.bt, i * 2, none⟩ = some (.slice (some ⟨L.br i, L.ro i, none⟩) (T + 1) (L.rc i))) (by kernel_rfl) (by decide) rfl (by kernel_rfl) (fun _ _ d _ _ h => by cases d <;> exact h) ⟨HR9.out.up (Up.drew _), HT9.out.up (Up.drew _), cell_up K1.out (Up.drew _)⟩ ?_
      refine OrdS.looks (.pointer (some ⟨L.bt, i * 2, none⟩)) (some 55) _ rfl rfl (Or.inl ⟨by kernel_rfl, fun w' hS => ?_⟩) ?_
      · go_simp
      refine OrdS.looks (.pointer (some ⟨L.bt, i * 2, none⟩)) (some 56) _ rfl rfl (Or.inl ⟨by kernel_rfl, fun w' hS => ?_⟩) ?_
      · go_simp
      refine OrdS.looks (.pointer (some ⟨L.bt, i * 2, none⟩)) (some 57) _ rfl rfl (Or.inl ⟨by kernel_rfl, fun w' hS => ?_⟩) ?_
      · go_simp
      refine OrdS.looks (.pointer (some ⟨L.bt, i * 2, none⟩)) (some 58) _ rfl rfl (Or.inl ⟨by kernel_rfl, fun w' hS => ?_⟩) ?_
      · go_simp
      refine OrdS.reads (.slice (some ⟨L.br i, L.ro i, none⟩) (T + 1) (L.rc i)) (some 59) _ rfl rfl (Or.inl ⟨by kernel_rfl, fun w' hS => ?_⟩) ?_
      · obtain ⟨-, -, z⟩ := hS
        go_simp
      refine OrdS.reads (.agg #[.int .i64 nx, .int .i64 e, .int .i64 la, .int .i64 ra]) (some 60) _ rfl rfl (Or.inl ⟨by kernel_rfl, fun w' hS => ?_⟩) ?_
      · obtain ⟨⟨z0, z1, z2, z3⟩, -, -⟩ := hS
        simp only [Nat.zero_add] at z0 z1 z2 z3
        go_simp
      refine OrdS.looks (.int .i64 now) (some 61) _ rfl rfl (Or.inl ⟨by kernel_rfl, fun w' hS => ?_⟩) ?_
      · go_simp
      refine OrdS.reads (.agg #[.int .i64 e, .int .i64 l, .int .i64 r]) (some 63) _ rfl rfl (Or.inl ⟨by kernel_rfl, fun w' hS => ?_⟩) ?_
      · obtain ⟨-, ⟨z0, z1, z2⟩, -⟩ := hS
        simp only [Nat.zero_add] at z0 z1 z2
        go_simp
      simp only [Act.put, List.setIfInBounds_toArray, List.set_cons_succ, List.set_cons_zero]
      refine OrdS.does ?_
      refine wpOp_callG (f := 52) (some 62) rfl rfl (by kernel_rfl) rfl #[.agg #[.int .i64 nx, .int .i64 e, .int .i64 la, .int .i64 ra], .int .i64 now] (by kernel_rfl) (enters Try.func52 (by kernel_rfl) (by kernel_rfl) _ _) ?_
      refine (C52 _).out.mono ?_
      rintro q w3 ⟨rfl, HU3⟩
      have HV3 : Hid (Up W9 w3) := (Up.drew _).trans HU3.out
      clear HU3
      refine ⟨_, rfl, ⟨HR9.out.up HV3.out, HT9.out.up HV3.out, cell_up K1.out HV3.out⟩, ?_⟩
      simp only [Act.put, List.setIfInBounds_toArray, List.set_cons_succ, List.set_cons_zero]
      refine OrdS.looks (.agg #[.int .i64 A, .int .i64 e, .int .i64 l, .int .i64 r]) (some 64) _ rfl rfl (Or.inl ⟨by kernel_rfl, fun w' hS => ?_⟩) ?_
      · go_simp
      simp only [Act.put, List.setIfInBounds_toArray, List.set_cons_succ, List.set_cons_zero]
      refine OrdS.does ?_
      refine wpOp_one (v := .slice (some ⟨w3.heap.size, 0, none⟩) 1 1) (w' := w3.alloc (.cells #[.int .i64 A, .int .i64 e, .int .i64 l, .int .i64 r] 67)) (some 65) rfl rfl rfl (by go_simp) ?_
      have hz : RowAt (w3.alloc (.cells #[.int .i64 A, .int .i64 e, .int .i64 l, .int .i64 r] 67)) w3.heap.size 0 ⟨A, e, l, r⟩ := by
        have z := heap_alloc_last w3 (.cells #[.int .i64 A, .int .i64 e, .int .i64 l, .int .i64 r] 67)
        exact ⟨(row_cell z 0).1, (row_cell z 1).1, (row_cell z 2).1, (row_cell z 3).1⟩
      have HVV : Hid (Up W9 (w3.alloc (.cells #[.int .i64 A, .int .i64 e, .int .i64 l, .int .i64 r] 67))) := HV3.out.trans (Up.alloc _ _)
      clear HV3
      generalize w3.alloc (.cells #[.int .i64 A, .int .i64 e, .int .i64 l, .int .i64 r] 67) = V at *
      generalize w3.heap.size = GB at *
      clear w3
      have HPV : Hid (PW V L n p) := HP9.out.up HVV.out
      refine ⟨⟨HR9.out.up HVV.out, HT9.out.up HVV.out, cell_up K1.out HVV.out⟩, ?_⟩
      simp only [Act.put, List.setIfInBounds_toArray, List.set_cons_succ, List.set_cons_zero]
      refine OrdS.does ?_
      refine wpOp_row (some 66) rfl rfl rfl _ _ rfl (D := (p.c i).hd :: (p.c i).tl) (z := ⟨A, e, l, r⟩) (b := GB) rfl rfl (by rw [List.length_cons, HT.out]) (HPV.out.rw' i hi) hz (HPV.out.sp i hi) (HPV.out.fr i hi) (HPV.out.lr hi) (by omega) ?_
      intro g' o' c' w5 HA
      have h5 : ∀ {a : Addr} {x : Value}, a.block ≠ L.br i → W9.cell? a = some x → w5.cell? a = some x := fun hb hc => HA.out.kp.cell hb (cell_up hc HVV.out)
      have n1 : G ≠ L.br i := by omega
      have n2 : G + 1 ≠ L.br i := by omega
      have y1 : w5.cell? ⟨L.bt, i * 2, none⟩ = some (.slice (some ⟨L.br i, L.ro i, none⟩) (T + 1) (L.rc i)) := h5 HBT.out K1.out
      have y2 : w5.frozen? ⟨L.bt, i * 2, none⟩ = false := HA.out.kp.frozen (a := ⟨L.bt, i * 2, none⟩) HBT.out HPV.out.lt (HPV.out.ft _)
      have y3 : L.bt < w5.heap.size := Nat.lt_of_lt_of_le HPV.out.lt HA.out.kp.size
      refine ⟨⟨⟨h5 n2 HR9.out.nx, h5 n2 HR9.out.e, h5 n2 HR9.out.l, h5 n2 HR9.out.r⟩, ⟨h5 n1 HT9.out.c0, h5 n1 HT9.out.c1, h5 n1 HT9.out.c2⟩, y1⟩, ?_⟩
      obtain ⟨m1, m2⟩ := HPV.out.more HL.out hi HA.out
      rw [HT.out] at m1 m2
      have M1 : Hid _ := m1
      have M2 : Hid _ := m2
      clear m1 m2 h5
      simp only [Act.put, List.setIfInBounds_toArray, List.set_cons_succ, List.set_cons_zero]
      refine OrdS.ends ?_
      simp only [List.drop_succ_cons, List.drop_zero]
      go_wp2_with fail
      go_end0
      exact ⟨rfl, _, M1, KeptG.after (HU9.out.trans HVV.out) M2.out⟩
  · clear hne
    go_enter Try.func40, Try.ntmps40
    go_wp2_with fail
    have HU9 : Hid (Up w ((w.alloc (.cells #[.int .i64 e, .int .i64 l, .int .i64 r] 26)).alloc (.cells #[.int .i64 nx, .int .i64 ea, .int .i64 la, .int .i64 ra] 67))) := (Up.alloc _ _).trans (Up.alloc _ _)
    have HT9 : Hid (TkAt ((w.alloc (.cells #[.int .i64 e, .int .i64 l, .int .i64 r] 26)).alloc (.cells #[.int .i64 nx, .int .i64 ea, .int .i64 la, .int .i64 ra] 67)) w.heap.size 0 ⟨e, l, r⟩) := by
      have z := heap_alloc_last w (.cells #[.int .i64 e, .int .i64 l, .int .i64 r] 26)
      have : TkAt (w.alloc (.cells #[.int .i64 e, .int .i64 l, .int .i64 r] 26)) w.heap.size 0 ⟨e, l, r⟩ := ⟨(row_cell z 0).1, by rw [Nat.zero_add]; exact (row_cell z 1).1, by rw [Nat.zero_add]; exact (row_cell z 2).1⟩
      exact this.up (Up.alloc _ _)
    have HR9 : Hid (RowAt ((w.alloc (.cells #[.int .i64 e, .int .i64 l, .int .i64 r] 26)).alloc (.cells #[.int .i64 nx, .int .i64 ea, .int .i64 la, .int .i64 ra] 67)) (w.heap.size + 1) 0 ⟨nx, ea, la, ra⟩) := by
      have s1 : (w.alloc (.cells #[.int .i64 e, .int .i64 l, .int .i64 r] 26)).heap.size = w.heap.size + 1 := by simp
      have z := heap_alloc_last (w.alloc (.cells #[.int .i64 e, .int .i64 l, .int .i64 r] 26)) (.cells #[.int .i64 nx, .int .i64 ea, .int .i64 la, .int .i64 ra] 67)
      rw [s1] at z
      exact ⟨(row_cell z 0).1, (row_cell z 1).1, (row_cell z 2).1, (row_cell z 3).1⟩
    have HP9 : Hid (PW _ L n p) := H.out.up HU9.out
    have k1 := cell_up c1 HU9.out
    have K1 : Hid _ := k1
    clear k1
    have HBT : Hid (L.bt ≠ L.br i) := fun q => HL.out.rt i hi q.symm
    clear c1 c3 c4 c5 c6
    generalize hW9 : (w.alloc (.cells #[.int .i64 e, .int .i64 l, .int .i64 r] 26)).alloc (.cells #[.int .i64 nx, .int .i64 ea, .int .i64 la, .int .i64 ra] 67) = W9 at *
    clear hW9
    obtain ⟨G, hG⟩ : ∃ G, w.heap.size = G := ⟨_, rfl⟩
    rw [hG] at HT9 HR9 ⊢
    refine wp_region_shut 12 [(0, none), (1, none), (2, none), (3, none), (4, some false), (5, some false), (6, none), (8, some false), (7, some true), (9, none), (10, some true), (11, some true)] (fun v => RowAt v (G + 1) 0 ⟨nx, ea, la, ra⟩ ∧ TkAt v G 0 ⟨e, l, r⟩ ∧ v.cell? ⟨L.bt, i * 2, none⟩ = some (.slice (some ⟨L.br i, L.ro i, none⟩) (T + 1) (L.rc i))) (by kernel_rfl) (by decide) rfl (by kernel_rfl) (fun _ _ d _ _ h => by cases d <;> exact h) ⟨HR9.out.up (Up.drew _), HT9.out.up (Up.drew _), cell_up K1.out (Up.drew _)⟩ ?_
    refine OrdS.looks (.pointer (some ⟨L.bt, i * 2, none⟩)) (some 55) _ rfl rfl (Or.inl ⟨by kernel_rfl, fun w' hS => ?_⟩) ?_
    · go_simp
    refine OrdS.looks (.pointer (some ⟨L.bt, i * 2, none⟩)) (some 56) _ rfl rfl (Or.inl ⟨by kernel_rfl, fun w' hS => ?_⟩) ?_
    · go_simp
    refine OrdS.looks (.pointer (some ⟨L.bt, i * 2, none⟩)) (some 57) _ rfl rfl (Or.inl ⟨by kernel_rfl, fun w' hS => ?_⟩) ?_
    · go_simp
    refine OrdS.looks (.pointer (some ⟨L.bt, i * 2, none⟩)) (some 58) _ rfl rfl (Or.inl ⟨by kernel_rfl, fun w' hS => ?_⟩) ?_
    · go_simp
    refine OrdS.reads (.slice (some ⟨L.br i, L.ro i, none⟩) (T + 1) (L.rc i)) (some 59) _ rfl rfl (Or.inl ⟨by kernel_rfl, fun w' hS => ?_⟩) ?_
    · obtain ⟨-, -, z⟩ := hS
      go_simp
    refine OrdS.reads (.agg #[.int .i64 nx, .int .i64 ea, .int .i64 la, .int .i64 ra]) (some 60) _ rfl rfl (Or.inl ⟨by kernel_rfl, fun w' hS => ?_⟩) ?_
    · obtain ⟨⟨z0, z1, z2, z3⟩, -, -⟩ := hS
      simp only [Nat.zero_add] at z0 z1 z2 z3
      go_simp
    refine OrdS.looks (.int .i64 now) (some 61) _ rfl rfl (Or.inl ⟨by kernel_rfl, fun w' hS => ?_⟩) ?_
    · go_simp
    refine OrdS.reads (.agg #[.int .i64 e, .int .i64 l, .int .i64 r]) (some 63) _ rfl rfl (Or.inl ⟨by kernel_rfl, fun w' hS => ?_⟩) ?_
    · obtain ⟨-, ⟨z0, z1, z2⟩, -⟩ := hS
      simp only [Nat.zero_add] at z0 z1 z2
      go_simp
    simp only [Act.put, List.setIfInBounds_toArray, List.set_cons_succ, List.set_cons_zero]
    refine OrdS.does ?_
    refine wpOp_callG (f := 52) (some 62) rfl rfl (by kernel_rfl) rfl #[.agg #[.int .i64 nx, .int .i64 ea, .int .i64 la, .int .i64 ra], .int .i64 now] (by kernel_rfl) (enters Try.func52 (by kernel_rfl) (by kernel_rfl) _ _) ?_
    refine (C52 _).out.mono ?_
    rintro q w3 ⟨rfl, HU3⟩
    have HV3 : Hid (Up W9 w3) := (Up.drew _).trans HU3.out
    clear HU3
    refine ⟨_, rfl, ⟨HR9.out.up HV3.out, HT9.out.up HV3.out, cell_up K1.out HV3.out⟩, ?_⟩
    simp only [Act.put, List.setIfInBounds_toArray, List.set_cons_succ, List.set_cons_zero]
    refine OrdS.looks (.agg #[.int .i64 A, .int .i64 e, .int .i64 l, .int .i64 r]) (some 64) _ rfl rfl (Or.inl ⟨by kernel_rfl, fun w' hS => ?_⟩) ?_
    · go_simp
    simp only [Act.put, List.setIfInBounds_toArray, List.set_cons_succ, List.set_cons_zero]
    refine OrdS.does ?_
    refine wpOp_one (v := .slice (some ⟨w3.heap.size, 0, none⟩) 1 1) (w' := w3.alloc (.cells #[.int .i64 A, .int .i64 e, .int .i64 l, .int .i64 r] 67)) (some 65) rfl rfl rfl (by go_simp) ?_
    have hz : RowAt (w3.alloc (.cells #[.int .i64 A, .int .i64 e, .int .i64 l, .int .i64 r] 67)) w3.heap.size 0 ⟨A, e, l, r⟩ := by
      have z := heap_alloc_last w3 (.cells #[.int .i64 A, .int .i64 e, .int .i64 l, .int .i64 r] 67)
      exact ⟨(row_cell z 0).1, (row_cell z 1).1, (row_cell z 2).1, (row_cell z 3).1⟩
    have HVV : Hid (Up W9 (w3.alloc (.cells #[.int .i64 A, .int .i64 e, .int .i64 l, .int .i64 r] 67))) := HV3.out.trans (Up.alloc _ _)
    clear HV3
    generalize w3.alloc (.cells #[.int .i64 A, .int .i64 e, .int .i64 l, .int .i64 r] 67) = V at *
    generalize w3.heap.size = GB at *
    clear w3
    have HPV : Hid (PW V L n p) := HP9.out.up HVV.out
    refine ⟨⟨HR9.out.up HVV.out, HT9.out.up HVV.out, cell_up K1.out HVV.out⟩, ?_⟩
    simp only [Act.put, List.setIfInBounds_toArray, List.set_cons_succ, List.set_cons_zero]
    refine OrdS.does ?_
    refine wpOp_row (some 66) rfl rfl rfl _ _ rfl (D := (p.c i).hd :: (p.c i).tl) (z := ⟨A, e, l, r⟩) (b := GB) rfl rfl (by rw [List.length_cons, HT.out]) (HPV.out.rw' i hi) hz (HPV.out.sp i hi) (HPV.out.fr i hi) (HPV.out.lr hi) (by omega) ?_
    intro g' o' c' w5 HA
    have h5 : ∀ {a : Addr} {x : Value}, a.block ≠ L.br i → W9.cell? a = some x → w5.cell? a = some x := fun hb hc => HA.out.kp.cell hb (cell_up hc HVV.out)
    have n1 : G ≠ L.br i := by omega
    have n2 : G + 1 ≠ L.br i := by omega
    have y1 : w5.cell? ⟨L.bt, i * 2, none⟩ = some (.slice (some ⟨L.br i, L.ro i, none⟩) (T + 1) (L.rc i)) := h5 HBT.out K1.out
    have y2 : w5.frozen? ⟨L.bt, i * 2, none⟩ = false := HA.out.kp.frozen (a := ⟨L.bt, i * 2, none⟩) HBT.out HPV.out.lt (HPV.out.ft _)
    have y3 : L.bt < w5.heap.size := Nat.lt_of_lt_of_le HPV.out.lt HA.out.kp.size
    refine ⟨⟨⟨h5 n2 HR9.out.nx, h5 n2 HR9.out.e, h5 n2 HR9.out.l, h5 n2 HR9.out.r⟩, ⟨h5 n1 HT9.out.c0, h5 n1 HT9.out.c1, h5 n1 HT9.out.c2⟩, y1⟩, ?_⟩
    obtain ⟨m1, m2⟩ := HPV.out.more HL.out hi HA.out
    rw [HT.out] at m1 m2
    have M1 : Hid _ := m1
    have M2 : Hid _ := m2
    clear m1 m2 h5
    simp only [Act.put, List.setIfInBounds_toArray, List.set_cons_succ, List.set_cons_zero]
    refine OrdS.ends ?_
    simp only [List.drop_succ_cons, List.drop_zero]
    go_wp2_with fail
    go_end0
    exact ⟨rfl, _, M1, KeptG.after (HU9.out.trans HVV.out) M2.out⟩
end Go.Proofs.Ytjklaemhfhakhaa

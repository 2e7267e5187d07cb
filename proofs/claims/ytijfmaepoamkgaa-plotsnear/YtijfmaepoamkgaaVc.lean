/- PlotsUnfold, walked. -/
import Derived.Test.YtijfmaepoamkgaaVa
import Derived.Deep.CutRange
import Derived.BigQuiet
namespace Go.Proofs.Ytijfmaepoamkgaa
open Go.ChangeShapes Go.WideShapes Go.ChangeAt Go.RowKit Go.Fl Go.Sort
attribute [local go_sem] run_store_float call53 run_neg fold_eq fold_ne fold_lt fold_gt abs_eq

/-- Beats and lists, side by side. -/
structure UF (w wr : World) (i : Nat) (vb vc : Value) (B : Nat → Bt) (C : Nat → List Int) (gf cf : Nat → Nat) : Prop where
  up : Up w wr
  bts : wr.ownsRow w.heap.size 24 5 vb i (bF B i)
  ll : LL w wr i vc C gf cf
theorem UF.upon {w wr w2 : World} {i : Nat} {vb vc : Value} {B : Nat → Bt} {C : Nat → List Int} {gf cf : Nat → Nat} (h : UF w wr i vb vc B C gf cf) (hu : Up wr w2) : UF w w2 i vb vc B C gf cf := ⟨h.up.trans hu, owns_up h.bts hu, h.ll.up hu⟩
/-- A beat is appended. -/
theorem UF.beat {w wr wa w2 : World} {i : Nat} {vb vb' vc : Value} {B : Nat → Bt} {C : Nat → List Int} {gf cf : Nat → Nat} (h : UF w wr i vb vc B C gf cf) (ha : Up wr wa) (hown : w2.ownsRow w.heap.size 24 5 vb' (i + 1) (bF B i ++ bL (B i))) (hg : wa.grownBy w2 vb.ownBlock) : Up w w2 ∧ w2.ownsRow w.heap.size 24 5 vb' (i + 1) (bF B (i + 1)) ∧ LL w w2 i vc C gf cf := by
  have h2 := h.upon ha
  refine ⟨grown_up h2.up hg (fun j hj => (World.ownsRow.lt h2.bts j hj).1), by rw [bF_next]; exact hown, h2.ll.grown hg (fun g hg' => kinds_apart h2.bts h2.ll.own (by decide) hg') (h2.ll.kind h2.bts (by decide))⟩
/-- A cell is appended to its list. -/
theorem uf_cell {w wc w4 wa w5 : World} {i k cl c5 g5 : Nat} {p4 pl qc : Option Addr} {c4 cc : Nat} {B : Nat → Bt} {C : Nat → List Int} {gf cf : Nat → Nat} {U : List Int} {z : List Value} (h : Up w w4 ∧ w4.ownsRow w.heap.size 24 5 (.slice p4 (i + 1) c4) (i + 1) (bF B (i + 1)) ∧ LL w w4 i (.slice qc i cc) C gf cf) (ha : Up w4 wa) (hl : w4.ownsRow wc.heap.size 2 1 (.slice pl k cl) k (U.map (Value.int .i64))) (hg : wa.grownBy w5 (Value.slice pl k cl).ownBlock) (hown : w5.ownsRow wc.heap.size 2 1 (.slice (some ⟨g5, 0, none⟩) (k + 1) c5) (k + 1) z) (hw : w.heap.size ≤ wc.heap.size) (hb : ∀ j, j < i → gf j < wc.heap.size) :
    Up w w5 ∧ w5.ownsRow w.heap.size 24 5 (.slice p4 (i + 1) c4) (i + 1) (bF B (i + 1)) ∧ LL w w5 i (.slice qc i cc) C gf cf ∧ (Value.slice qc i cc).ownBlock ≠ some g5 := by
  obtain ⟨h1, h2, h3⟩ := h
  have hl2 := owns_up hl ha
  have h22 := owns_up h2 ha
  have h32 := h3.up ha
  have hll : LL w w5 i (.slice qc i cc) C gf cf := h32.grown hg (fun g hg' => kinds_apart hl2 h32.own (by decide) hg') (fun j hj e => by
    have := (World.ownsRow.lt hl2 (gf j) e).1
    have := hb j hj
    omega)
  exact ⟨grown_up (h1.trans ha) hg (fun j hj => Nat.le_trans hw (World.ownsRow.lt hl2 j hj).1), owns_grown h22 hg (fun g hg' => kinds_apart hl2 h22 (by decide) hg'), hll, fun e => kinds_apart hll.own hown (by decide) e rfl⟩
theorem uf_next {w wc w5 wa w6 : World} {i k c5 g5 : Nat} {p4 p6 qc : Option Addr} {c4 c6 cc : Nat} {B : Nat → Bt} {C : Nat → List Int} {gf cf : Nat → Nat} {Z : List Int} (h : Up w w5 ∧ w5.ownsRow w.heap.size 24 5 (.slice p4 (i + 1) c4) (i + 1) (bF B (i + 1)) ∧ LL w w5 i (.slice qc i cc) C gf cf ∧ (Value.slice qc i cc).ownBlock ≠ some g5) (ht : w5.ownsRow wc.heap.size 2 1 (.slice (some ⟨g5, 0, none⟩) (k + 1) c5) (k + 1) (Z.map (Value.int .i64))) (hz : C i = Z) (hw : w.heap.size ≤ wc.heap.size) (ha : Up w5 wa) (hown : w6.ownsRow w.heap.size 39 1 (.slice p6 (i + 1) c6) (i + 1) (((List.range i).map fun j => Value.slice (some ⟨gf j, 0, none⟩) (C j).length (cf j)) ++ [.slice (some ⟨g5, 0, none⟩) (k + 1) c5])) (hg : wa.grownBy w6 (Value.slice qc i cc).ownBlock) (hat : (Value.slice p6 (i + 1) c6).ownBlock = (Value.slice qc i cc).ownBlock ∨ (Value.slice p6 (i + 1) c6).ownBlock = some wa.heap.size) :
    ∃ gf' cf', UF w w6 (i + 1) (.slice p4 (i + 1) c4) (.slice p6 (i + 1) c6) B C gf' cf' := by
  obtain ⟨h1, h2, h3, h4⟩ := h
  have hlen : Z.length = k + 1 := by
    have := ht.1
    simpa using this
  have htl := World.ownsRow.lt ht g5 rfl
  have h22 := owns_up h2 ha
  have h32 := h3.up ha
  refine ⟨_, _, grown_up (h1.trans ha) hg (fun j hj => (World.ownsRow.lt h3.own j hj).1), owns_grown h22 hg (fun g hg' => kinds_apart h32.own h22 (by decide) hg'), h3.next ha (Nat.le_trans hw htl.1) htl.2 h4 ?_ ?_ (by rw [hz, hlen]; exact hown) hg hat⟩
  · rcases ht.2 with ⟨e, _⟩ | ⟨g, cap, cur, e, _, e3, _⟩
    · cases e
    · simp only [Value.slice.injEq, Option.some.injEq, Addr.mk.injEq] at e
      obtain ⟨⟨rfl, _⟩, _⟩ := e
      exact ⟨_, _, e3⟩
  · intro j hj
    rw [hz] at hj ⊢
    rw [World.ownsRow.cellAt ht j (by omega), List.getElem?_map, List.getElem?_eq_getElem hj, getElem!_pos Z j hj]
    rfl
theorem one_newS (w : World) (v : Value) (t : TypeId) : ∀ (j : Nat) (u : Value), [v][j]? = some u → (w.alloc (.cells #[v] t)).cell? ((⟨w.heap.size, 0, none⟩ : Addr).add j) = some u := by
  intro j u hj
  cases j with
  | zero => simp at hj; subst hj; exact World.cell?_alloc_at _ _ _ _ rfl
  | succ j => simp at hj
theorem one_oneS (p : Option Addr) (n c : Nat) : ∀ u ∈ [Value.slice p n c], u.oneCell' = true := by
  intro u hu
  simp at hu
  subst hu
  rfl
theorem take_has {L : List Int} {k : Nat} {x : Int} (hk : k < L.length) : decide (x ∈ L.take (k + 1)) = (decide (x ∈ L.take k) || decide (L[k]! = x)) := by
  have e : L.take (k + 1) = L.take k ++ [L[k]!] := by
    rw [List.take_add_one, List.getElem?_eq_getElem hk, getElem!_pos L k hk]
    rfl
  rw [e, Bool.eq_iff_iff]
  simp only [decide_eq_true_eq, Bool.or_eq_true, List.mem_append, List.mem_singleton]
  rw [eq_comm (a := x)]
set_option maxRecDepth 20000 in
set_option maxHeartbeats 8000000 in
theorem t6 (x0 : Int) (ev mo : List Int) (pe pm po : Option Addr) (ce cm co nO : Nat) (O : Nat → List Int) (off0 : Int) (w : World) (hev : Fo.IR w pe ev.length (fun i => ev[i]!)) (hmo : Fo.IR w pm mo.length (fun i => mo[i]!)) (hO : CV w po nO O) : Calls Try.prog 6 #[.int .i64 x0, .slice pe ev.length ce, .slice pm mo.length cm, .slice po nO co, .int .i64 off0] w fun e w' => e = .returned (.bool true) ∧ Hid (Up w w') := by
  have HEv : Hid (Fo.IR w pe ev.length (fun i => ev[i]!)) := hev
  have HMo : Hid (Fo.IR w pm mo.length (fun i => mo[i]!)) := hmo
  have HO : Hid (CV w po nO O) := hO
  clear hev hmo hO
  obtain ⟨i0, hi0, hz0, hz1, hz2⟩ := info_parts info24
  obtain ⟨j0, hj0, hy0, hy1, hy2⟩ := info_parts Fo.info2
  obtain ⟨l0, hl0, hx0, hx1, hx2⟩ := info_parts info39
  have Mod : Hid (∀ (x m : Int) (w : World), 1 ≤ m ∧ m ≤ 4611686018427387904 → Calls Try.prog 22 #[.int .i64 x, .int .i64 m] w fun e w' => e = .returned (.int .i64 (x % m)) ∧ w' = w) := fun x m w h => t22 x m h w
  have o1 := Int.emod_nonneg off0 (show (30 : Int) ≠ 0 by omega)
  have o2 := Int.emod_lt_of_pos off0 (show (0 : Int) < 30 by omega)
  have x1 := Int.emod_nonneg x0 (show (4096 : Int) ≠ 0 by omega)
  have x2 := Int.emod_lt_of_pos x0 (show (0 : Int) < 4096 by omega)
  go_enter Try.func6, Try.ntmps6
  go_wp2_with (first
    | (go_at_call 22; (with_reducible refine (Mod.out off0 30 _ (by omega)).mono ?_); rintro e w' ⟨rfl, hw⟩; subst w')
    | (go_at_call 22; (with_reducible refine (Mod.out x0 4096 _ (by omega)).mono ?_); rintro e w' ⟨rfl, hw⟩; subst w'))
  generalize off0 % 30 = off at *
  obtain ⟨X, hX⟩ : ∃ X : Nat, x0 % 4096 = X := ⟨(x0 % 4096).toNat, by omega⟩
  have HX4 : Hid (X < 4096) := by show X < 4096; omega
  rw [hX]
  clear x1 x2
  obtain ⟨n, hn⟩ : ∃ n, min ev.length 5 = n := ⟨_, rfl⟩
  have HN : Hid (n = min ev.length 5) := hn.symm
  clear hn hX
  generalize hB : (fun i => bt (uE ev i)) = B
  have HB : Hid (∀ i, B i = bt (uE ev i)) := fun i => by rw [← hB]
  clear hB
  generalize hC : uC ev mo nO O off X = C
  have HC : Hid (∀ i, C i = uO nO O i ++ [(X : Int) % uE ev i + uM mo off i]) := fun i => by rw [← hC]; rfl
  have HCC : Hid (uC ev mo nO O off X = C) := hC
  clear hC
  go_loopw [11, 12, 13] (fun v11 v12 vi wr => ∃ (i : Nat) (qb qc : Option Addr) (cb cc : Nat) (gf cf : Nat → Nat), i ≤ n ∧ vi = .int .i64 i ∧ v11 = .slice qb i cb ∧ v12 = .slice qc i cc ∧ Hid (UF w wr i (.slice qb i cb) (.slice qc i cc) B C gf cf)) (fun _ _ vi _ => n - (intOf vi).toNat)
  case atStart => exact ⟨0, none, none, 0, 0, _, _, by omega, rfl, rfl, rfl, Up.refl _, World.ownsRow_nil _ _ _ _, LL.nil w w C⟩
  case round =>
    obtain ⟨i, qb, qc, cb, cc, gf, cf, hi, rfl, rfl, rfl, HI⟩ := hrel
    rename World => wr
    by_cases hlt : i < n
    · have hie : i < ev.length := by have := HN.out; omega
      have hi5 : (i : Int) < 5 := by have := HN.out; omega
      have hie' : (i : Int) < ev.length := by omega
      obtain ⟨eb, eo, rfl, ec⟩ := (ir_up HEv.out HI.out.up) i hie
      simp only at ec
      have hE := uE_in ev i
      have hEd : ev[i]! % 500 + 1 = uE ev i := rfl
      have HE : Hid (ev[i]! % 500 + 1 = uE ev i) := rfl
      have q0 := Int.emod_nonneg ev[i]! (show (500 : Int) ≠ 0 by omega)
      have q1 := Int.emod_lt_of_pos ev[i]! (show (0 : Int) < 500 by omega)
      generalize ev[i]! = evi at *
      generalize hme : evi % 500 = me at *
      have HBi : Hid (B i = bt (uE ev i)) := HB.out i
      have HCi : Hid (C i = uO nO O i ++ [(X : Int) % uE ev i + uM mo off i]) := HC.out i
      generalize uE ev i = E at *
      have C23 : Hid (∀ w, Calls Try.prog 23 #[.int .i64 E] w fun en w' => en = .returned (.agg #[.float .f64 4621819117588971520, .float .f64 4602678819172646912, .float .f64 4652007308841189376, .int .i64 E, .int .i64 4]) ∧ Hid (Gr w w')) := fun w => t23 E w
      go_upto_if 46 with (first
        | (go_at_call 22; (with_reducible refine (Mod.out evi 500 _ (by omega)).mono ?_); rintro e w' ⟨rfl, hw⟩; subst w'; rw [hme])
        | (go_at_call 23; (with_reducible refine (C23.out _).mono ?_); rintro e w1 ⟨rfl, HG1⟩))
      have HI2 : Hid (UF w (w1.alloc (.cells #[.float .f64 4621819117588971520, .float .f64 4602678819172646912, .float .f64 4652007308841189376, .int .i64 E, .int .i64 4] 24)) i (.slice qb i cb) (.slice qc i cc) B C gf cf) := HI.out.upon (HG1.out.up.trans (Up.alloc _ _))
      have HBk : Hid (Bk (w1.alloc (.cells #[.float .f64 4621819117588971520, .float .f64 4602678819172646912, .float .f64 4652007308841189376, .int .i64 E, .int .i64 4] 24)) w1.heap.size 24 (.float .f64 4621819117588971520) (.float .f64 4602678819172646912) (.float .f64 4652007308841189376) (.int .i64 E) (.int .i64 4)) := Bk.new _ _ _ _ _ _ _
      have HbbA : Hid (some w1.heap.size ≠ (Value.slice qb i cb).ownBlock) := fun e => by
        have := (World.ownsRow.lt (HI.out.upon HG1.out.up).bts w1.heap.size e.symm).2
        omega
      clear HI HG1 ec
      generalize w1.alloc (.cells #[.float .f64 4621819117588971520, .float .f64 4602678819172646912, .float .f64 4652007308841189376, .int .i64 E, .int .i64 4] 24) = W2 at *
      generalize w1.heap.size = bb at *
      go_cut [15] from 46 to 56 (fun s15 wx => s15 = .int .i64 (uM mo off i) ∧ wx = W2)
      case first =>
        by_cases him : i < mo.length
        · obtain ⟨mb, mo', rfl, mc⟩ := (ir_up HMo.out HI2.out.up) i him
          simp only at mc
          have him' : (i : Int) < mo.length := by omega
          have HU : Hid (uM mo off i = mo[i]! % (2 * off + 1) - off) := by show _ = _; unfold uM; rw [if_pos him]
          have q3 := Int.emod_nonneg mo[i]! (show 2 * off + 1 ≠ 0 by omega)
          have q4 := Int.emod_lt_of_pos mo[i]! (show (0 : Int) < 2 * off + 1 by omega)
          generalize mo[i]! = moi at *
          have CM : Hid (∀ w, Calls Try.prog 22 #[.int .i64 moi, .int .i64 (2 * off + 1)] w fun e w' => e = .returned (.int .i64 (moi % (2 * off + 1))) ∧ w' = w) := fun w => Mod.out moi (2 * off + 1) w (by omega)
          generalize hmm : moi % (2 * off + 1) = mm at *
          go_wp2_with (go_at_call 22; (with_reducible refine (CM.out _).mono ?_); rintro e w' ⟨rfl, hw⟩; subst w')
          go_meet
          case rel => exact ⟨by rw [HU.out], rfl⟩
        · have HU : Hid (uM mo off i = 0) := by show _ = _; unfold uM; rw [if_neg him]
          have him' : ¬ (i : Int) < mo.length := by omega
          go_wp2
          go_meet
          case rel => exact ⟨by rw [HU.out], rfl⟩
      case rest =>
        obtain ⟨rfl, hwc⟩ := hcut
        subst hwc
        have HMv : Hid (-off ≤ uM mo off i ∧ uM mo off i ≤ off) := uM_in mo (by omega) i
        have HbbB0 : Hid (some bb ≠ (Value.slice qb i cb).ownBlock) := HbbA.out
        generalize uM mo off i = mv at *
        obtain ⟨K, hK⟩ : ∃ K, (uO nO O i).length = K := ⟨_, rfl⟩
        have HK : Hid ((uO nO O i).length = K ∧ K ≤ 20) := ⟨hK, by rw [← hK]; exact uO_len nO O i⟩
        have hK20 : (K : Int) ≤ 20 := by have := HK.out.2; omega
        have HRd : Hid ((¬ i < nO ∧ K = 0) ∨ (i < nO ∧ ∃ ob oo oq oc, po = some ⟨ob, oo, none⟩ ∧ wc.cell? ⟨ob, oo + i, none⟩ = some (.slice oq (O i).length oc) ∧ K ≤ (O i).length ∧ (K < (O i).length → K = 20) ∧ ∀ k, k < (O i).length → ∃ lb lo, oq = some ⟨lb, lo, none⟩ ∧ wc.cell? ⟨lb, lo + k, none⟩ = some (.int .i64 (O i)[k]!))) := by
          by_cases hin : i < nO
          · refine Or.inr ⟨hin, ?_⟩
            obtain ⟨ob, oo, oq, oc, e1, e2, e3⟩ := (HO.out.up HI2.out.up) i hin
            have hk2 : K = min 20 (O i).length := by rw [← hK]; unfold uO; rw [if_pos hin, List.length_take]
            exact ⟨ob, oo, oq, oc, e1, e2, by omega, by omega, fun k hk => e3 k hk⟩
          · refine Or.inl ⟨hin, ?_⟩
            rw [← hK]; unfold uO; rw [if_neg hin]; rfl
        have HAt : Hid (i < nO → ∀ k, k < K → (uO nO O i)[k]! = (O i)[k]!) := fun hin k hk => by
          have hk2 : k < (uO nO O i).length := by rw [hK]; exact hk
          unfold uO at hk2 ⊢
          rw [if_pos hin] at hk2 ⊢
          have hk3 : k < (O i).length := by simp at hk2; omega
          rw [getElem!_pos _ k hk2, List.getElem_take, getElem!_pos _ k hk3]
        clear hK
        generalize uO nO O i = U at *
        go_wp2
        go_loopw [16, 17] (fun v16 vk wx => ∃ (k : Nat) (pl : Option Addr) (cl : Nat), k ≤ K ∧ vk = .int .i64 k ∧ v16 = .slice pl k cl ∧ Hid (wx.ownsRow wc.heap.size 2 1 (.slice pl k cl) k ((U.take k).map (Value.int .i64)) ∧ Up wc wx)) (fun _ vk _ => K - (intOf vk).toNat)
        case atStart => exact ⟨0, none, 0, by omega, rfl, rfl, World.ownsRow_nil _ _ _ _, Up.refl _⟩
        case round =>
          obtain ⟨k, pl, cl, hk, rfl, rfl, HL⟩ := hrel
          rename World => wx
          by_cases hkk : k < K
          · rcases HRd.out with ⟨_, h0⟩ | ⟨hin, ob, oo, oq, oc, rfl, e2, e3, e4, e5⟩
            · omega
            obtain ⟨lb, lo, rfl, e6⟩ := e5 k (by omega)
            have e2' := cell_up e2 HL.out.2
            have e6' := cell_up e6 HL.out.2
            have hin' : (i : Int) < nO := by omega
            have hk1 : (k : Int) < (O i).length := by omega
            have hk2 : (k : Int) < 20 := by have := HK.out.2; omega
            have HUk : Hid (U.take (k + 1) = U.take k ++ [(O i)[k]!]) := by
              show _ = _
              rw [List.take_add_one, List.getElem?_eq_getElem (by rw [HK.out.1]; exact hkk), ← HAt.out hin k hkk, getElem!_pos U k (by rw [HK.out.1]; exact hkk)]
              rfl
            generalize (O i)[k]! = z at *
            have HOw : Hid (wx.ownsRow wc.heap.size 2 1 (.slice pl k cl) k ((U.take k).map (Value.int .i64))) := HL.out.1
            have hwx : wc.heap.size ≤ wx.heap.size := HL.out.2.size
            clear e2 e6
            go_wp2_with (at_builtin; refine wpList_append_own _ rfl _ _ 39 rfl wc.heap.size 2 j0 (.int .i64 0) 1 8 Try.underlying39 hj0 hy0 hy1 hy2 rfl (by decide) _ _ _ rfl (HOw.out.alloc _) ⟨wx.heap.size, 0, none⟩ 1 1 [.int .i64 z] rfl rfl (Fo.one_new _ _ _) (Fo.one_one _) (by unfold maxLen; omega) (by omega) (by simp; omega) ?_; intro v8 w8 hown8 hgrow8 hnil8; (obtain ⟨p8, c8, hv8, -⟩ := own_form hown8); subst hv8; (have HT8 : Hid (w8.ownsRow wc.heap.size 2 1 (.slice p8 (k + 1) c8) (k + 1) ((U.take (k + 1)).map (Value.int .i64)) ∧ Up wc w8) := ⟨by rw [HUk.out, List.map_append]; exact hown8, grown_up (HL.out.2.trans (Up.alloc _ _)) hgrow8 (fun j hj => (World.ownsRow.lt HOw.out j hj).1)⟩); clear hown8 hgrow8 hnil8)
            go_roundw
            case rel => exact ⟨k + 1, p8, c8, by omega, by go_num, rfl, HT8⟩
            case measure => simp [intOf]; omega
          · obtain rfl : k = K := by omega
            have HIx : Hid (UF w wx i (.slice qb i cb) (.slice qc i cc) B C gf cf) := HI2.out.upon HL.out.2
            have HOb : Hid (wx.ownsRow w.heap.size 24 5 (.slice qb i cb) i (bF B i)) := HIx.out.bts
            have HLx : Hid (wx.ownsRow wc.heap.size 2 1 (.slice pl k cl) k (U.map (Value.int .i64))) := by
              have := HL.out.1
              rwa [← HK.out.1, List.take_length, HK.out.1] at this
            obtain ⟨d0, d1, d2, d3x, d4⟩ := (HBk.out.up HL.out.2).cells
            have HWc : Hid (w.heap.size ≤ wc.heap.size) := HI2.out.up.size
            have hwx2 : w.heap.size ≤ wx.heap.size := HIx.out.up.size
            have hwx3 : wc.heap.size ≤ wx.heap.size := HL.out.2.size
            have HbbB : Hid (some bb ≠ (Value.slice qb i cb).ownBlock) := HbbB0.out
            have HLb : Hid (∀ j, j < i → gf j < wc.heap.size) := fun j hj => (HI2.out.ll.lt j hj).2
            have CX : Hid (∀ w, Calls Try.prog 22 #[.int .i64 X, .int .i64 E] w fun e w' => e = .returned (.int .i64 ((X : Int) % E)) ∧ w' = w) := fun w => Mod.out X E w (by omega)
            have q5 := Int.emod_nonneg (X : Int) (show E ≠ 0 by omega)
            have q6 := Int.emod_lt_of_pos (X : Int) (show (0 : Int) < E by omega)
            obtain ⟨xe, hxe⟩ : ∃ xe, (X : Int) % E = xe := ⟨_, rfl⟩
            have HXE : Hid ((X : Int) % E = xe) := hxe
            rw [hxe] at q5 q6 CX
            have hmv := HMv.out
            have hk20 : k ≤ 20 := HK.out.2
            have HUx : Hid (Up wc wx) := HL.out.2
            clear hxe HL
            rcases HRd.out with ⟨hin, -⟩ | ⟨hin, ob, oo, oq, oc, rfl, e2, e3, e4, e5⟩
            · have hin' : ¬ (i : Int) < nO := by omega
              go_wp2_with (first
                | (go_at_call 22; (with_reducible refine (CX.out _).mono ?_); rintro e w' ⟨rfl, hw⟩; subst w')
                | (at_builtin; refine wpList_append_own_at _ rfl _ _ 35 rfl w.heap.size 24 i0 (.agg #[.float .f64 0, .float .f64 0, .float .f64 0, .int .i64 0, .int .i64 0]) 5 40 Try.underlying35 hi0 hz0 hz1 hz2 rfl (by decide) _ _ _ rfl (HOb.out.alloc _) ⟨wx.heap.size, 0, none⟩ 1 1 (bL (bt E)) rfl rfl (beat_new wx (bt E) 24) (beat_one _) (by unfold maxLen; omega) (by omega) (by simp; omega) ?_; intro v4 w4 hown4 hgrow4 hnil4 hat4; (obtain ⟨p4, c4, hv4, -⟩ := own_form hown4); subst hv4; (have HU4 := HIx.out.beat (Up.alloc _ (.cells #[.float .f64 4621819117588971520, .float .f64 4602678819172646912, .float .f64 4652007308841189376, .int .i64 E, .int .i64 4] 24)) (by rw [HBi.out]; exact hown4) hgrow4); (have HF4 : Hid (Up w w4 ∧ w4.ownsRow w.heap.size 24 5 (.slice p4 (i + 1) c4) (i + 1) (bF B (i + 1)) ∧ LL w w4 i (.slice qc i cc) C gf cf) := HU4); (have d3 : w4.cell? ⟨bb, 3, none⟩ = some (.int .i64 E) := World.grownBy.cell hgrow4 (cell_up d3x (Up.alloc _ _)) (fun e => HbbB.out e)); (have HLr : Hid (w4.ownsRow wc.heap.size 2 1 (.slice pl k cl) k (U.map (Value.int .i64))) := owns_grown (owns_up HLx.out (Up.alloc _ _)) hgrow4 (fun g hg' => kinds_apart HOb.out HLx.out (by decide) hg')); (have hs4 : wx.heap.size ≤ w4.heap.size := Nat.le_trans (Up.alloc wx _).size hgrow4.size); clear HU4 hown4 hgrow4 hnil4 hat4)
                | ((fail_if_success have := HT5); at_builtin; refine wpList_append_own_at _ rfl _ _ 39 rfl wc.heap.size 2 j0 (.int .i64 0) 1 8 Try.underlying39 hj0 hy0 hy1 hy2 rfl (by decide) _ _ _ rfl (HLr.out.alloc _) ⟨w4.heap.size, 0, none⟩ 1 1 [.int .i64 (xe + mv)] rfl rfl (Fo.one_new _ _ _) (Fo.one_one _) (by unfold maxLen; omega) (by omega) (by simp; omega) ?_; intro v5 w5 hown5 hgrow5 hnil5 hat5; (obtain ⟨p5, c5, hv5, hp5⟩ := own_form hown5); subst hv5; (obtain ⟨g5, hg5⟩ := hp5 (by omega)); subst hg5; (have HT5 : Hid (w5.ownsRow wc.heap.size 2 1 (.slice (some ⟨g5, 0, none⟩) (k + 1) c5) (k + 1) ((U ++ [xe + mv]).map (Value.int .i64))) := by rw [List.map_append]; exact hown5); (have HUp5 : Hid (Up w w5 ∧ w5.ownsRow w.heap.size 24 5 (.slice p4 (i + 1) c4) (i + 1) (bF B (i + 1)) ∧ LL w w5 i (.slice qc i cc) C gf cf ∧ (Value.slice qc i cc).ownBlock ≠ some g5) := uf_cell HF4.out (Up.alloc _ _) HLr.out hgrow5 hown5 HWc.out HLb.out); (have hs5 : w4.heap.size ≤ w5.heap.size := Nat.le_trans (Up.alloc w4 _).size hgrow5.size); clear hown5 hgrow5 hnil5 hat5)
                | (at_builtin; refine wpList_append_own_at _ rfl _ _ 36 rfl w.heap.size 39 l0 (.slice none 0 0) 1 24 Try.underlying36 hl0 hx0 hx1 hx2 rfl (by decide) _ _ _ rfl (HUp5.out.2.2.1.own.alloc _) ⟨w5.heap.size, 0, none⟩ 1 1 [.slice (some ⟨g5, 0, none⟩) (k + 1) c5] rfl rfl (one_newS _ _ _) (one_oneS _ _ _) (by unfold maxLen; omega) (by omega) (by simp; omega) ?_; intro v6 w6 hown6 hgrow6 hnil6 hat6; (obtain ⟨p6, c6, hv6, -⟩ := own_form hown6); subst hv6; (have HN6 : Hid (∃ gf' cf', UF w w6 (i + 1) (.slice p4 (i + 1) c4) (.slice p6 (i + 1) c6) B C gf' cf') := uf_next HUp5.out HT5.out (by rw [HCi.out]; rw [← HXE.out]) HWc.out (Up.alloc _ _) hown6 hgrow6 hat6); clear hown6 hgrow6 hnil6 hat6))
              obtain ⟨gf', cf', hN6⟩ := HN6.out
              go_roundw
              case rel => exact ⟨i + 1, p4, p6, c4, c6, gf', cf', by omega, by go_num, rfl, rfl, hN6⟩
              case measure => simp [intOf]; omega
            · have e2' := cell_up e2 (show Up wc wx from HUx.out)
              have hin' : (i : Int) < nO := by omega
              by_cases hkl : k < (O i).length
              · have hk2 : ¬ (k : Int) < 20 := by have := e4 hkl; omega
                have hk1 : (k : Int) < (O i).length := by omega
                clear e5 e2
                go_wp2_with (first
                  | (go_at_call 22; (with_reducible refine (CX.out _).mono ?_); rintro e w' ⟨rfl, hw⟩; subst w')
                  | (at_builtin; refine wpList_append_own_at _ rfl _ _ 35 rfl w.heap.size 24 i0 (.agg #[.float .f64 0, .float .f64 0, .float .f64 0, .int .i64 0, .int .i64 0]) 5 40 Try.underlying35 hi0 hz0 hz1 hz2 rfl (by decide) _ _ _ rfl (HOb.out.alloc _) ⟨wx.heap.size, 0, none⟩ 1 1 (bL (bt E)) rfl rfl (beat_new wx (bt E) 24) (beat_one _) (by unfold maxLen; omega) (by omega) (by simp; omega) ?_; intro v4 w4 hown4 hgrow4 hnil4 hat4; (obtain ⟨p4, c4, hv4, -⟩ := own_form hown4); subst hv4; (have HU4 := HIx.out.beat (Up.alloc _ (.cells #[.float .f64 4621819117588971520, .float .f64 4602678819172646912, .float .f64 4652007308841189376, .int .i64 E, .int .i64 4] 24)) (by rw [HBi.out]; exact hown4) hgrow4); (have HF4 : Hid (Up w w4 ∧ w4.ownsRow w.heap.size 24 5 (.slice p4 (i + 1) c4) (i + 1) (bF B (i + 1)) ∧ LL w w4 i (.slice qc i cc) C gf cf) := HU4); (have d3 : w4.cell? ⟨bb, 3, none⟩ = some (.int .i64 E) := World.grownBy.cell hgrow4 (cell_up d3x (Up.alloc _ _)) (fun e => HbbB.out e)); (have HLr : Hid (w4.ownsRow wc.heap.size 2 1 (.slice pl k cl) k (U.map (Value.int .i64))) := owns_grown (owns_up HLx.out (Up.alloc _ _)) hgrow4 (fun g hg' => kinds_apart HOb.out HLx.out (by decide) hg')); (have hs4 : wx.heap.size ≤ w4.heap.size := Nat.le_trans (Up.alloc wx _).size hgrow4.size); clear HU4 hown4 hgrow4 hnil4 hat4)
                  | ((fail_if_success have := HT5); at_builtin; refine wpList_append_own_at _ rfl _ _ 39 rfl wc.heap.size 2 j0 (.int .i64 0) 1 8 Try.underlying39 hj0 hy0 hy1 hy2 rfl (by decide) _ _ _ rfl (HLr.out.alloc _) ⟨w4.heap.size, 0, none⟩ 1 1 [.int .i64 (xe + mv)] rfl rfl (Fo.one_new _ _ _) (Fo.one_one _) (by unfold maxLen; omega) (by omega) (by simp; omega) ?_; intro v5 w5 hown5 hgrow5 hnil5 hat5; (obtain ⟨p5, c5, hv5, hp5⟩ := own_form hown5); subst hv5; (obtain ⟨g5, hg5⟩ := hp5 (by omega)); subst hg5; (have HT5 : Hid (w5.ownsRow wc.heap.size 2 1 (.slice (some ⟨g5, 0, none⟩) (k + 1) c5) (k + 1) ((U ++ [xe + mv]).map (Value.int .i64))) := by rw [List.map_append]; exact hown5); (have HUp5 : Hid (Up w w5 ∧ w5.ownsRow w.heap.size 24 5 (.slice p4 (i + 1) c4) (i + 1) (bF B (i + 1)) ∧ LL w w5 i (.slice qc i cc) C gf cf ∧ (Value.slice qc i cc).ownBlock ≠ some g5) := uf_cell HF4.out (Up.alloc _ _) HLr.out hgrow5 hown5 HWc.out HLb.out); (have hs5 : w4.heap.size ≤ w5.heap.size := Nat.le_trans (Up.alloc w4 _).size hgrow5.size); clear hown5 hgrow5 hnil5 hat5)
                  | (at_builtin; refine wpList_append_own_at _ rfl _ _ 36 rfl w.heap.size 39 l0 (.slice none 0 0) 1 24 Try.underlying36 hl0 hx0 hx1 hx2 rfl (by decide) _ _ _ rfl (HUp5.out.2.2.1.own.alloc _) ⟨w5.heap.size, 0, none⟩ 1 1 [.slice (some ⟨g5, 0, none⟩) (k + 1) c5] rfl rfl (one_newS _ _ _) (one_oneS _ _ _) (by unfold maxLen; omega) (by omega) (by simp; omega) ?_; intro v6 w6 hown6 hgrow6 hnil6 hat6; (obtain ⟨p6, c6, hv6, -⟩ := own_form hown6); subst hv6; (have HN6 : Hid (∃ gf' cf', UF w w6 (i + 1) (.slice p4 (i + 1) c4) (.slice p6 (i + 1) c6) B C gf' cf') := uf_next HUp5.out HT5.out (by rw [HCi.out]; rw [← HXE.out]) HWc.out (Up.alloc _ _) hown6 hgrow6 hat6); clear hown6 hgrow6 hnil6 hat6))
                obtain ⟨gf', cf', hN6⟩ := HN6.out
                go_roundw
                case rel => exact ⟨i + 1, p4, p6, c4, c6, gf', cf', by omega, by go_num, rfl, rfl, hN6⟩
                case measure => simp [intOf]; omega
              · have hk1 : ¬ (k : Int) < (O i).length := by omega
                clear e5 e2
                go_wp2_with (first
                  | (go_at_call 22; (with_reducible refine (CX.out _).mono ?_); rintro e w' ⟨rfl, hw⟩; subst w')
                  | (at_builtin; refine wpList_append_own_at _ rfl _ _ 35 rfl w.heap.size 24 i0 (.agg #[.float .f64 0, .float .f64 0, .float .f64 0, .int .i64 0, .int .i64 0]) 5 40 Try.underlying35 hi0 hz0 hz1 hz2 rfl (by decide) _ _ _ rfl (HOb.out.alloc _) ⟨wx.heap.size, 0, none⟩ 1 1 (bL (bt E)) rfl rfl (beat_new wx (bt E) 24) (beat_one _) (by unfold maxLen; omega) (by omega) (by simp; omega) ?_; intro v4 w4 hown4 hgrow4 hnil4 hat4; (obtain ⟨p4, c4, hv4, -⟩ := own_form hown4); subst hv4; (have HU4 := HIx.out.beat (Up.alloc _ (.cells #[.float .f64 4621819117588971520, .float .f64 4602678819172646912, .float .f64 4652007308841189376, .int .i64 E, .int .i64 4] 24)) (by rw [HBi.out]; exact hown4) hgrow4); (have HF4 : Hid (Up w w4 ∧ w4.ownsRow w.heap.size 24 5 (.slice p4 (i + 1) c4) (i + 1) (bF B (i + 1)) ∧ LL w w4 i (.slice qc i cc) C gf cf) := HU4); (have d3 : w4.cell? ⟨bb, 3, none⟩ = some (.int .i64 E) := World.grownBy.cell hgrow4 (cell_up d3x (Up.alloc _ _)) (fun e => HbbB.out e)); (have HLr : Hid (w4.ownsRow wc.heap.size 2 1 (.slice pl k cl) k (U.map (Value.int .i64))) := owns_grown (owns_up HLx.out (Up.alloc _ _)) hgrow4 (fun g hg' => kinds_apart HOb.out HLx.out (by decide) hg')); (have hs4 : wx.heap.size ≤ w4.heap.size := Nat.le_trans (Up.alloc wx _).size hgrow4.size); clear HU4 hown4 hgrow4 hnil4 hat4)
                  | ((fail_if_success have := HT5); at_builtin; refine wpList_append_own_at _ rfl _ _ 39 rfl wc.heap.size 2 j0 (.int .i64 0) 1 8 Try.underlying39 hj0 hy0 hy1 hy2 rfl (by decide) _ _ _ rfl (HLr.out.alloc _) ⟨w4.heap.size, 0, none⟩ 1 1 [.int .i64 (xe + mv)] rfl rfl (Fo.one_new _ _ _) (Fo.one_one _) (by unfold maxLen; omega) (by omega) (by simp; omega) ?_; intro v5 w5 hown5 hgrow5 hnil5 hat5; (obtain ⟨p5, c5, hv5, hp5⟩ := own_form hown5); subst hv5; (obtain ⟨g5, hg5⟩ := hp5 (by omega)); subst hg5; (have HT5 : Hid (w5.ownsRow wc.heap.size 2 1 (.slice (some ⟨g5, 0, none⟩) (k + 1) c5) (k + 1) ((U ++ [xe + mv]).map (Value.int .i64))) := by rw [List.map_append]; exact hown5); (have HUp5 : Hid (Up w w5 ∧ w5.ownsRow w.heap.size 24 5 (.slice p4 (i + 1) c4) (i + 1) (bF B (i + 1)) ∧ LL w w5 i (.slice qc i cc) C gf cf ∧ (Value.slice qc i cc).ownBlock ≠ some g5) := uf_cell HF4.out (Up.alloc _ _) HLr.out hgrow5 hown5 HWc.out HLb.out); (have hs5 : w4.heap.size ≤ w5.heap.size := Nat.le_trans (Up.alloc w4 _).size hgrow5.size); clear hown5 hgrow5 hnil5 hat5)
                  | (at_builtin; refine wpList_append_own_at _ rfl _ _ 36 rfl w.heap.size 39 l0 (.slice none 0 0) 1 24 Try.underlying36 hl0 hx0 hx1 hx2 rfl (by decide) _ _ _ rfl (HUp5.out.2.2.1.own.alloc _) ⟨w5.heap.size, 0, none⟩ 1 1 [.slice (some ⟨g5, 0, none⟩) (k + 1) c5] rfl rfl (one_newS _ _ _) (one_oneS _ _ _) (by unfold maxLen; omega) (by omega) (by simp; omega) ?_; intro v6 w6 hown6 hgrow6 hnil6 hat6; (obtain ⟨p6, c6, hv6, -⟩ := own_form hown6); subst hv6; (have HN6 : Hid (∃ gf' cf', UF w w6 (i + 1) (.slice p4 (i + 1) c4) (.slice p6 (i + 1) c6) B C gf' cf') := uf_next HUp5.out HT5.out (by rw [HCi.out]; rw [← HXE.out]) HWc.out (Up.alloc _ _) hown6 hgrow6 hat6); clear hown6 hgrow6 hnil6 hat6))
                obtain ⟨gf', cf', hN6⟩ := HN6.out
                go_roundw
                case rel => exact ⟨i + 1, p4, p6, c4, c6, gf', cf', by omega, by go_num, rfl, rfl, hN6⟩
                case measure => simp [intOf]; omega
    · obtain rfl : i = n := by omega
      have hne : ¬ ((i : Int) < ev.length ∧ (i : Int) < 5) := by have := HN.out; omega
      have HN5 : Hid (i ≤ 5) := by show _ ≤ _; have := HN.out; omega
      have HBE : Hid (B = fun j => bt (uE ev j)) := funext HB.out
      have k1 : i ≤ cb := by
        rcases HI.out.bts.2 with ⟨e, h⟩ | ⟨g, cap, cur, e, _, _, h, _⟩
        · omega
        · simp only [Value.slice.injEq] at e
          omega
      have k2 : i ≤ cc := by
        rcases HI.out.ll.own.2 with ⟨e, h⟩ | ⟨g, cap, cur, e, _, _, h, _⟩
        · omega
        · simp only [Value.slice.injEq] at e
          omega
      have C15 : Hid (Calls Try.prog 15 #[.slice qb i cb, .slice qc i cc, .int .i64 off, .int .i64 4096] wr (ResR wr 0 (resL off (fun j => (bt (uE ev j)).E) (uC ev mo nO O off X) i 4096))) := by
        have h := t15 (most := 4096) (off := off) (bv_of HI.out.bts) HI.out.ll.cv k1 k2 (by have := HN5.out; omega) (by omega)
        rw [Nat.min_self, HBE.out, ← HCC.out, res_ok (by omega) HN5.out] at h
        exact h
      have HHas : Hid ((X : Int) ∈ resL off (fun j => (bt (uE ev j)).E) (uC ev mo nO O off X) i 4096) := res_has (by omega) HX4.out
      have HIn : Hid (∀ k, k < (resL off (fun j => (bt (uE ev j)).E) (uC ev mo nO O off X) i 4096).length → 0 ≤ (resL off (fun j => (bt (uE ev j)).E) (uC ev mo nO O off X) i 4096)[k]! ∧ (resL off (fun j => (bt (uE ev j)).E) (uC ev mo nO O off X) i 4096)[k]! < 4096) := fun k hk => res_at hk
      have HRi : Hid (∀ k, k + 1 < (resL off (fun j => (bt (uE ev j)).E) (uC ev mo nO O off X) i 4096).length → (resL off (fun j => (bt (uE ev j)).E) (uC ev mo nO O off X) i 4096)[k]! < (resL off (fun j => (bt (uE ev j)).E) (uC ev mo nO O off X) i 4096)[k + 1]!) := fun k hk => res_rise hk
      have HLn : Hid ((resL off (fun j => (bt (uE ev j)).E) (uC ev mo nO O off X) i 4096).length ≤ 4096) := resL_len _ _ _ _ _
      have HU0 : Hid (Up w wr) := HI.out.up
      generalize resL off (fun j => (bt (uE ev j)).E) (uC ev mo nO O off X) i 4096 = L at *
      have hl4 : (L.length : Int) ≤ 4096 := by have := HLn.out; omega
      by_cases hie : (i : Int) < ev.length
      · have hi5 : ¬ (i : Int) < 5 := by omega
        go_wp2_with (go_at_call 15; (with_reducible refine C15.out.mono ?_); rintro e w7 ⟨HU7, hh⟩; rcases hh with ⟨h0, -⟩ | ⟨-, p7, c7, rfl, HO7⟩; · exact absurd rfl h0)
        have HR7 : Hid (Fo.IR w7 p7 L.length (fun k => L[k]!)) := (Fo.OI.ir HO7.out).2
        have HU8 : Hid (Up w w7) := HU0.out.trans HU7.out
        go_loopw [20, 21] (fun v20 vi wx => ∃ k : Nat, k ≤ L.length ∧ vi = .int .i64 k ∧ v20 = .bool (decide ((X : Int) ∈ L.take k)) ∧ Hid (Up w7 wx)) (fun _ vi _ => L.length - (intOf vi).toNat)
        case atStart => exact ⟨0, by omega, rfl, by simp, Up.refl _⟩
        case round =>
          obtain ⟨k, hk, rfl, rfl, HWx⟩ := hrel
          rename World => wx
          by_cases hkl : k < L.length
          · obtain ⟨lb, lo, rfl, lc⟩ := (ir_up HR7.out HWx.out) k hkl
            simp only at lc
            have hin := HIn.out k hkl
            have hk' : (k : Int) < L.length := by omega
            have HT : Hid (decide ((X : Int) ∈ L.take (k + 1)) = (decide ((X : Int) ∈ L.take k) || decide (L[k]! = (X : Int)))) := take_has hkl
            have h1 : decide (L[k]! < 0) = false := decide_eq_false (by omega)
            have h2 : decide (4096 ≤ L[k]!) = false := decide_eq_false (by omega)
            have h1' : ¬ L[k]! < 0 := by omega
            have h2' : ¬ 4096 ≤ L[k]! := by omega
            rcases Nat.eq_zero_or_pos k with hk0 | hpos
            · have h3 : decide ((0 : Int) < (k : Int)) = false := by simp; omega
              have h3' : decide (0 < k) = false := by simp; omega
              have h3n : ¬ (0 : Int) < (k : Int) := by omega
              have HK0 : Hid (k = 0) := hk0
              generalize L[k]! = zk at *
              generalize hbk : decide ((X : Int) ∈ L.take k) = bk at *
              clear hk0 hin
              go_wp2_with fail
              go_quiet (fail)
              cases bk
              · go_wp2
                go_roundw
                case rel => exact ⟨k + 1, by omega, by go_num, by rw [HT.out]; simp; try rfl, HWx.out.trans (Up.drewN _ _)⟩
                case measure => simp [intOf]; omega
              · go_wp2
                go_roundw
                case rel => exact ⟨k + 1, by omega, by go_num, by rw [HT.out]; simp; try rfl, HWx.out.trans (Up.drewN _ _)⟩
                case measure => simp [intOf]; omega
            · obtain ⟨m, hm⟩ : ∃ m, k = m + 1 := ⟨k - 1, by omega⟩
              have HM : Hid (k = m + 1) := hm
              have hm1 : (k : Int) - 1 = (m : Int) := by omega
              have hml : (m : Int) < L.length := by omega
              have lm : wx.cell? ⟨lb, lo + m, none⟩ = some (.int .i64 L[m]!) := by
                obtain ⟨lb', lo', e1, e2⟩ := (ir_up HR7.out HWx.out) m (by omega)
                simp only [Option.some.injEq, Addr.mk.injEq] at e1
                obtain ⟨rfl, rfl, _⟩ := e1
                exact e2
              have hrise : L[m]! < L[k]! := by
                have := HRi.out m (by omega)
                rwa [← hm] at this
              have h3 : decide ((0 : Int) < (k : Int)) = true := by simp; omega
              have h3' : decide (0 < k) = true := by simp; omega
              have h4 : decide (L[k]! ≤ L[m]!) = false := decide_eq_false (by omega)
              have h4' : ¬ L[k]! ≤ L[m]! := by omega
              generalize L[k]! = zk at *
              generalize L[m]! = zm at *
              generalize hbk : decide ((X : Int) ∈ L.take k) = bk at *
              clear hm hin hpos
              go_wp2_with fail
              go_quiet (fail)
              cases bk
              · go_wp2
                go_roundw
                case rel => exact ⟨k + 1, by omega, by go_num, by rw [HT.out]; simp; try rfl, HWx.out.trans (Up.drewN _ _)⟩
                case measure => simp [intOf]; omega
              · go_wp2
                go_roundw
                case rel => exact ⟨k + 1, by omega, by go_num, by rw [HT.out]; simp; try rfl, HWx.out.trans (Up.drewN _ _)⟩
                case measure => simp [intOf]; omega
          · obtain rfl : k = L.length := by omega
            have hT : decide ((X : Int) ∈ L.take L.length) = true := by rw [List.take_length]; exact decide_eq_true HHas.out
            rw [hT]
            go_wp2_with (go_at_call 12; (with_reducible refine (t12 _).mono ?_); rintro e w9 ⟨rfl, HU9⟩)
            go_ret
            exact ⟨rfl, HU8.out.trans (HWx.out.trans HU9.out)⟩
      · go_wp2_with (go_at_call 15; (with_reducible refine C15.out.mono ?_); rintro e w7 ⟨HU7, hh⟩; rcases hh with ⟨h0, -⟩ | ⟨-, p7, c7, rfl, HO7⟩; · exact absurd rfl h0)
        have HR7 : Hid (Fo.IR w7 p7 L.length (fun k => L[k]!)) := (Fo.OI.ir HO7.out).2
        have HU8 : Hid (Up w w7) := HU0.out.trans HU7.out
        go_loopw [20, 21] (fun v20 vi wx => ∃ k : Nat, k ≤ L.length ∧ vi = .int .i64 k ∧ v20 = .bool (decide ((X : Int) ∈ L.take k)) ∧ Hid (Up w7 wx)) (fun _ vi _ => L.length - (intOf vi).toNat)
        case atStart => exact ⟨0, by omega, rfl, by simp, Up.refl _⟩
        case round =>
          obtain ⟨k, hk, rfl, rfl, HWx⟩ := hrel
          rename World => wx
          by_cases hkl : k < L.length
          · obtain ⟨lb, lo, rfl, lc⟩ := (ir_up HR7.out HWx.out) k hkl
            simp only at lc
            have hin := HIn.out k hkl
            have hk' : (k : Int) < L.length := by omega
            have HT : Hid (decide ((X : Int) ∈ L.take (k + 1)) = (decide ((X : Int) ∈ L.take k) || decide (L[k]! = (X : Int)))) := take_has hkl
            have h1 : decide (L[k]! < 0) = false := decide_eq_false (by omega)
            have h2 : decide (4096 ≤ L[k]!) = false := decide_eq_false (by omega)
            have h1' : ¬ L[k]! < 0 := by omega
            have h2' : ¬ 4096 ≤ L[k]! := by omega
            rcases Nat.eq_zero_or_pos k with hk0 | hpos
            · have h3 : decide ((0 : Int) < (k : Int)) = false := by simp; omega
              have h3' : decide (0 < k) = false := by simp; omega
              have h3n : ¬ (0 : Int) < (k : Int) := by omega
              have HK0 : Hid (k = 0) := hk0
              generalize L[k]! = zk at *
              generalize hbk : decide ((X : Int) ∈ L.take k) = bk at *
              clear hk0 hin
              go_wp2_with fail
              go_quiet (fail)
              cases bk
              · go_wp2
                go_roundw
                case rel => exact ⟨k + 1, by omega, by go_num, by rw [HT.out]; simp; try rfl, HWx.out.trans (Up.drewN _ _)⟩
                case measure => simp [intOf]; omega
              · go_wp2
                go_roundw
                case rel => exact ⟨k + 1, by omega, by go_num, by rw [HT.out]; simp; try rfl, HWx.out.trans (Up.drewN _ _)⟩
                case measure => simp [intOf]; omega
            · obtain ⟨m, hm⟩ : ∃ m, k = m + 1 := ⟨k - 1, by omega⟩
              have HM : Hid (k = m + 1) := hm
              have hm1 : (k : Int) - 1 = (m : Int) := by omega
              have hml : (m : Int) < L.length := by omega
              have lm : wx.cell? ⟨lb, lo + m, none⟩ = some (.int .i64 L[m]!) := by
                obtain ⟨lb', lo', e1, e2⟩ := (ir_up HR7.out HWx.out) m (by omega)
                simp only [Option.some.injEq, Addr.mk.injEq] at e1
                obtain ⟨rfl, rfl, _⟩ := e1
                exact e2
              have hrise : L[m]! < L[k]! := by
                have := HRi.out m (by omega)
                rwa [← hm] at this
              have h3 : decide ((0 : Int) < (k : Int)) = true := by simp; omega
              have h3' : decide (0 < k) = true := by simp; omega
              have h4 : decide (L[k]! ≤ L[m]!) = false := decide_eq_false (by omega)
              have h4' : ¬ L[k]! ≤ L[m]! := by omega
              generalize L[k]! = zk at *
              generalize L[m]! = zm at *
              generalize hbk : decide ((X : Int) ∈ L.take k) = bk at *
              clear hm hin hpos
              go_wp2_with fail
              go_quiet (fail)
              cases bk
              · go_wp2
                go_roundw
                case rel => exact ⟨k + 1, by omega, by go_num, by rw [HT.out]; simp; try rfl, HWx.out.trans (Up.drewN _ _)⟩
                case measure => simp [intOf]; omega
              · go_wp2
                go_roundw
                case rel => exact ⟨k + 1, by omega, by go_num, by rw [HT.out]; simp; try rfl, HWx.out.trans (Up.drewN _ _)⟩
                case measure => simp [intOf]; omega
          · obtain rfl : k = L.length := by omega
            have hT : decide ((X : Int) ∈ L.take L.length) = true := by rw [List.take_length]; exact decide_eq_true HHas.out
            rw [hT]
            go_wp2_with (go_at_call 12; (with_reducible refine (t12 _).mono ?_); rintro e w9 ⟨rfl, HU9⟩)
            go_ret
            exact ⟨rfl, HU8.out.trans (HWx.out.trans HU9.out)⟩
end Go.Proofs.Ytijfmaepoamkgaa

/- PlotsNear, walked. -/
import Derived.Test.YtijfmaepoamkgaaVd
import Derived.Test.YtijfmaepoamkgaaVc
import Derived.BigQuiet
namespace Go.Proofs.Ytijfmaepoamkgaa
open Go.ChangeShapes Go.WideShapes Go.ChangeAt Go.RowKit Go.Fl Go.Sort
attribute [local go_sem] run_store_float call53 run_neg fold_eq fold_ne fold_lt fold_gt abs_eq

def nM (ev : List Int) (i : Nat) : Int := ev[i]! % 300 + 1
theorem nM_in (ev : List Int) (i : Nat) : 1 ≤ nM ev i ∧ nM ev i ≤ 300 := by
  unfold nM
  have h1 := Int.emod_nonneg ev[i]! (show (300 : Int) ≠ 0 by omega)
  have h2 := Int.emod_lt_of_pos ev[i]! (show (0 : Int) < 300 by omega)
  omega
/-- The code of both calls. -/
theorem near_code {m r : Nat → Int} (hm : ∀ i, 1 ≤ m i ∧ m i ≤ 300) {n : Nat} (hn : n ≤ 6) (off : Int) : resC (fun i => (bt (m i)).code) (fun i => (bt (m i)).E) (fun i => [r i]) n off 3000 = (if off < 0 then 2 else 0) ∧ Fo.nearC (Fo.ringsC m n n (decide (off < 0) || decide ((3000 : Int) < 0)) 3000) r m (min n n) off 3000 = (if off < 0 then 2 else 0) := by
  have hl : longB (fun i => ([r i] : List Int).length) n = false := by
    have : ∀ k, longB (fun i => ([r i] : List Int).length) k = false := fun k => by
      induction k with
      | zero => rfl
      | succ k ih => exact longB_next ih (by simp)
    exact this n
  have hf : firstE (fun i => (bt (m i)).code) n = 0 := firstE_ok fun i _ => bt_code (hm i).1 (by have := (hm i).2; omega)
  have hr : refC (fun i => (bt (m i)).code) (fun i => ([r i] : List Int).length) n off 3000 = if off < 0 then 2 else 0 := by
    unfold refC
    rw [if_neg (by omega), hl, if_neg (by simp), hf, if_neg (by simp)]
    by_cases h : off < 0
    · rw [if_pos (Or.inl h), if_pos h]
    · rw [if_neg (by omega), if_neg (by omega), if_neg h]
  have hE : Fo.ringsE m n = 0 := by
    have : ∀ k, Fo.ringsE m k = 0 := fun k => by
      induction k with
      | zero => rfl
      | succ k ih => exact Fo.rings_next ih ⟨(hm k).1, by have := (hm k).2; omega⟩
    exact this n
  have hc : Fo.ringsC m n n (decide (off < 0) || decide ((3000 : Int) < 0)) 3000 = if off < 0 then 2 else 0 := by
    unfold Fo.ringsC
    rw [Nat.min_self, if_neg (by omega), hE, if_neg (by simp)]
    by_cases h : off < 0 <;> simp [h]
  constructor
  · unfold resC
    rw [hr]
    by_cases h : off < 0
    · rw [if_pos h, if_pos (by decide)]
    · rw [if_neg h, if_neg (by decide), if_neg]
      have := resL_len off (fun i => (bt (m i)).E) (fun i => [r i]) n (3000 : Int).toNat
      have e : (3000 : Int).toNat = 3000 := rfl
      omega
  · unfold Fo.nearC
    rw [hc]
    by_cases h : off < 0
    · rw [if_pos h, if_pos (by decide)]
    · rw [if_neg h, if_neg (by decide), if_neg]
      unfold Fo.nears
      have := nearL_len (fun x => worst r m x (min n n)) off (3000 : Int).toNat
      have e : (3000 : Int).toNat = 3000 := rfl
      omega
theorem one_cellS {w : World} {on : List Int} {i k : Nat} {oi : Int} (h : on[i]! = oi) (hk : k < ([on[i]!] : List Int).length) : (w.alloc (.cells #[.int .i64 oi] 2)).cell? ⟨w.heap.size, k, none⟩ = some (.int .i64 ([on[i]!] : List Int)[k]!) := by
  have hk' : k < 1 := hk
  obtain rfl : k = 0 := by omega
  rw [h]
  exact World.cell?_alloc_at _ _ _ _ rfl
theorem two_newS (w : World) (o : Obj) (v : Value) (t : TypeId) : ∀ (j : Nat) (u : Value), [v][j]? = some u → ((w.alloc o).alloc (.cells #[v] t)).cell? ((⟨w.heap.size + 1, 0, none⟩ : Addr).add j) = some u := by
  intro j u hj
  have := one_newS (w.alloc o) v t j u hj
  rwa [show (w.alloc o).heap.size = w.heap.size + 1 by simp] at this
set_option maxRecDepth 20000 in
set_option maxHeartbeats 8000000 in
theorem t7 (ev on : List Int) (pe pn : Option Addr) (ce cn : Nat) (off : Int) (w : World) (hev : Fo.IR w pe ev.length (fun i => ev[i]!)) (hon : Fo.IR w pn on.length (fun i => on[i]!)) (hoff : off ≤ 9223372036854775807) : Calls Try.prog 7 #[.slice pe ev.length ce, .slice pn on.length cn, .int .i64 off] w fun e w' => e = .returned (.bool true) ∧ Hid (Up w w') := by
  have HEv : Hid (Fo.IR w pe ev.length (fun i => ev[i]!)) := hev
  have HOn : Hid (Fo.IR w pn on.length (fun i => on[i]!)) := hon
  clear hev hon
  obtain ⟨i0, hi0, hz0, hz1, hz2⟩ := info_parts info24
  obtain ⟨j0, hj0, hy0, hy1, hy2⟩ := info_parts Fo.info2
  obtain ⟨l0, hl0, hx0, hx1, hx2⟩ := info_parts info39
  have Mod : Hid (∀ (x m : Int) (w : World), 1 ≤ m ∧ m ≤ 4611686018427387904 → Calls Try.prog 22 #[.int .i64 x, .int .i64 m] w fun e w' => e = .returned (.int .i64 (x % m)) ∧ w' = w) := fun x m w h => t22 x m h w
  obtain ⟨n, hn⟩ : ∃ n, min (min ev.length on.length) 6 = n := ⟨_, rfl⟩
  have HN : Hid (n = min (min ev.length on.length) 6) := hn.symm
  clear hn
  go_enter Try.func7, Try.ntmps7
  go_wp2
  go_loopw [7, 8, 9, 10, 11] (fun v7 v8 v9 v10 vi wr => ∃ (i : Nat) (qb qc qm qr : Option Addr) (cb cc cm cr : Nat) (gf cf : Nat → Nat), i ≤ n ∧ vi = .int .i64 i ∧ v7 = .slice qb i cb ∧ v8 = .slice qc i cc ∧ v9 = .slice qm i cm ∧ v10 = .slice qr i cr ∧ Hid (NF w wr i i i i i (.slice qb i cb) (.slice qc i cc) (.slice qm i cm) (.slice qr i cr) (fun j => bt (nM ev j)) (fun j => [on[j]!]) (nM ev) (fun j => on[j]!) gf cf)) (fun _ _ _ _ vi _ => n - (intOf vi).toNat)
  case atStart => exact ⟨0, none, none, none, none, 0, 0, 0, 0, _, _, by omega, rfl, rfl, rfl, rfl, rfl, NF.start w _ _ _ _⟩
  case round =>
    obtain ⟨i, qb, qc, qm, qr, cb, cc, cm, cr, gf, cf, hi, rfl, rfl, rfl, rfl, rfl, HI⟩ := hrel
    rename World => wr
    by_cases hlt : i < n
    · have hie : i < ev.length := by have := HN.out; omega
      have hio : i < on.length := by have := HN.out; omega
      have hi6 : (i : Int) < 6 := by have := HN.out; omega
      have hie' : (i : Int) < ev.length := by omega
      have hio' : (i : Int) < on.length := by omega
      obtain ⟨eb, eo, rfl, ec⟩ := (ir_up HEv.out HI.out.up) i hie
      obtain ⟨nb, no, rfl, -⟩ := (ir_up HOn.out HI.out.up) i hio
      have HNc : Hid (∀ W, Up w W → W.cell? ⟨nb, no + i, none⟩ = some (.int .i64 on[i]!)) := fun W hu => by
        obtain ⟨nb', no', e1, e2⟩ := (ir_up HOn.out hu) i hio
        simp only [Option.some.injEq, Addr.mk.injEq] at e1
        obtain ⟨rfl, rfl, _⟩ := e1
        exact e2
      simp only at ec
      have hE := nM_in ev i
      have hEd : ev[i]! % 300 + 1 = nM ev i := rfl
      have q0 := Int.emod_nonneg ev[i]! (show (300 : Int) ≠ 0 by omega)
      have q1 := Int.emod_lt_of_pos ev[i]! (show (0 : Int) < 300 by omega)
      generalize ev[i]! = evi at *
      generalize hme : evi % 300 = me at *
      have HE0 : Hid (nM ev i = nM ev i) := rfl
      obtain ⟨E, hEE⟩ : ∃ E, nM ev i = E := ⟨_, rfl⟩
      have HEE : Hid (nM ev i = E) := hEE
      obtain ⟨oi, hoi⟩ : ∃ oi, on[i]! = oi := ⟨_, rfl⟩
      have HOI : Hid (on[i]! = oi) := hoi
      rw [hEE] at hE hEd
      have HNc2 : Hid (∀ W, Up w W → W.cell? ⟨nb, no + i, none⟩ = some (.int .i64 oi)) := fun W hu => by rw [← HOI.out]; exact HNc.out W hu
      have C23 : Hid (∀ w, Calls Try.prog 23 #[.int .i64 E] w fun en w' => en = .returned (.agg #[.float .f64 4621819117588971520, .float .f64 4602678819172646912, .float .f64 4652007308841189376, .int .i64 E, .int .i64 4]) ∧ Hid (Gr w w')) := fun w => t23 E w
      clear hEE hoi HNc HE0
      go_wp2_with (first
        | (go_at_call 22; (with_reducible refine (Mod.out evi 300 _ (by omega)).mono ?_); rintro e w' ⟨rfl, hw⟩; subst w'; rw [hme])
        | (go_at_call 23; (with_reducible refine (C23.out _).mono ?_); rintro e w1 ⟨rfl, HG1⟩; (have HI1 : Hid (NF w w1 i i i i i (.slice qb i cb) (.slice qc i cc) (.slice qm i cm) (.slice qr i cr) (fun j => bt (nM ev j)) (fun j => [on[j]!]) (nM ev) (fun j => on[j]!) gf cf) := HI.out.upon HG1.out.up); (have s1 : w.heap.size ≤ w1.heap.size := HI1.out.up.size))
        | (at_builtin; refine wpList_append_own_at _ rfl _ _ 35 rfl w.heap.size 24 i0 (.agg #[.float .f64 0, .float .f64 0, .float .f64 0, .int .i64 0, .int .i64 0]) 5 40 Try.underlying35 hi0 hz0 hz1 hz2 rfl (by decide) _ _ _ rfl (HI1.out.bts.alloc _) ⟨w1.heap.size, 0, none⟩ 1 1 (bL (bt E)) rfl rfl (beat_new w1 (bt E) 24) (beat_one _) (by unfold maxLen; omega) (by omega) (by simp; omega) ?_; intro v2 w2 hown2 hgrow2 hnil2 hat2; (obtain ⟨p2, c2, hv2, -⟩ := own_form hown2); subst hv2; (have HI2 : Hid (NF w w2 i (i + 1) i i i (.slice p2 (i + 1) c2) (.slice qc i cc) (.slice qm i cm) (.slice qr i cr) (fun j => bt (nM ev j)) (fun j => [on[j]!]) (nM ev) (fun j => on[j]!) gf cf) := HI1.out.beat (Up.alloc _ _) (by rw [HEE.out]; exact hown2) hgrow2); (have s2 : w.heap.size ≤ w2.heap.size := HI2.out.up.size); (have nc2 := HNc2.out w2 HI2.out.up); clear hown2 hgrow2 hnil2 hat2 HI1)
        | (at_builtin; refine wpList_append_own_at _ rfl _ _ 36 rfl w.heap.size 39 l0 (.slice none 0 0) 1 24 Try.underlying36 hl0 hx0 hx1 hx2 rfl (by decide) _ _ _ rfl ((HI2.out.ll.own.alloc _).alloc _) ⟨w2.heap.size + 1, 0, none⟩ 1 1 [.slice (some ⟨w2.heap.size, 0, none⟩) 1 1] rfl rfl (two_newS _ _ _ _) (one_oneS _ _ _) (by unfold maxLen; omega) (by omega) (by simp; omega) ?_; intro v3 w3 hown3 hgrow3 hnil3 hat3; (obtain ⟨p3, c3, hv3, -⟩ := own_form hown3); subst hv3; (have HI3 : Hid (∃ gf' cf', NF w w3 (i + 1) (i + 1) (i + 1) i i (.slice p2 (i + 1) c2) (.slice p3 (i + 1) c3) (.slice qm i cm) (.slice qr i cr) (fun j => bt (nM ev j)) (fun j => [on[j]!]) (nM ev) (fun j => on[j]!) gf' cf') := HI2.out.cell (Up.alloc w2 (.cells #[.int .i64 oi] 2)) (Nat.le_refl _) (by simp) ⟨_, _, heap_alloc_last _ _⟩ (fun k hk => one_cellS HOI.out hk) (Up.alloc _ _) hown3 hgrow3 hat3); (obtain ⟨gf3, cf3, hI3⟩ := HI3.out); (have HJ3 : Hid (NF w w3 (i + 1) (i + 1) (i + 1) i i (.slice p2 (i + 1) c2) (.slice p3 (i + 1) c3) (.slice qm i cm) (.slice qr i cr) (fun j => bt (nM ev j)) (fun j => [on[j]!]) (nM ev) (fun j => on[j]!) gf3 cf3) := hI3); (have s3 : w.heap.size ≤ w3.heap.size := HJ3.out.up.size); clear hown3 hgrow3 hnil3 hat3 HI2 HI3 hI3)
        | ((fail_if_success have := HJ4); at_builtin; refine wpList_append_own_at _ rfl _ _ 39 rfl w.heap.size 2 j0 (.int .i64 0) 1 8 Try.underlying39 hj0 hy0 hy1 hy2 rfl (by decide) _ _ _ rfl (HJ3.out.mm.alloc _) ⟨w3.heap.size, 0, none⟩ 1 1 [.int .i64 E] rfl rfl (Fo.one_new _ _ _) (Fo.one_one _) (by unfold maxLen; omega) (by omega) (by simp; omega) ?_; intro v4 w4 hown4 hgrow4 hnil4 hat4; (obtain ⟨p4, c4, hv4, -⟩ := own_form hown4); subst hv4; (have HJ4 : Hid (NF w w4 (i + 1) (i + 1) (i + 1) (i + 1) i (.slice p2 (i + 1) c2) (.slice p3 (i + 1) c3) (.slice p4 (i + 1) c4) (.slice qr i cr) (fun j => bt (nM ev j)) (fun j => [on[j]!]) (nM ev) (fun j => on[j]!) gf3 cf3) := HJ3.out.modulus (Up.alloc _ _) (by rw [HEE.out]; exact hown4) hgrow4 hat4); (have s4 : w.heap.size ≤ w4.heap.size := HJ4.out.up.size); (have nc4 := HNc2.out w4 HJ4.out.up); clear hown4 hgrow4 hnil4 hat4 HJ3)
        | (at_builtin; refine wpList_append_own_at _ rfl _ _ 39 rfl w.heap.size 2 j0 (.int .i64 0) 1 8 Try.underlying39 hj0 hy0 hy1 hy2 rfl (by decide) _ _ _ rfl (HJ4.out.rr.alloc _) ⟨w4.heap.size, 0, none⟩ 1 1 [.int .i64 oi] rfl rfl (Fo.one_new _ _ _) (Fo.one_one _) (by unfold maxLen; omega) (by omega) (by simp; omega) ?_; intro v5 w5 hown5 hgrow5 hnil5 hat5; (obtain ⟨p5, c5, hv5, -⟩ := own_form hown5); subst hv5; (have HJ5 : Hid (NF w w5 (i + 1) (i + 1) (i + 1) (i + 1) (i + 1) (.slice p2 (i + 1) c2) (.slice p3 (i + 1) c3) (.slice p4 (i + 1) c4) (.slice p5 (i + 1) c5) (fun j => bt (nM ev j)) (fun j => [on[j]!]) (nM ev) (fun j => on[j]!) gf3 cf3) := HJ4.out.rest (Up.alloc _ _) (by rw [HOI.out]; exact hown5) hgrow5 hat5); clear hown5 hgrow5 hnil5 hat5 HJ4))
      go_roundw
      case rel => exact ⟨i + 1, p2, p3, p4, p5, c2, c3, c4, c5, gf3, cf3, by omega, by go_num, rfl, rfl, rfl, rfl, HJ5⟩
      case measure => simp [intOf]; omega
    · obtain rfl : i = n := by omega
      have HN6 : Hid (i ≤ 6) := by show _ ≤ _; have := HN.out; omega
      have k1 : i ≤ cb := by
        rcases HI.out.bts.2 with ⟨e, h⟩ | ⟨g, cap, cur, e, _, _, h, _⟩
        · omega
        · simp only [Value.slice.injEq] at e
          omega
      have k2 : i ≤ cc := by
        rcases HI.out.ll.own.2 with ⟨e, h⟩ | ⟨g, cap, cur, e, _, _, h, _⟩
        · omega
        · simp only [Value.slice.injEq] at e
          omega
      have hcd := near_code (m := nM ev) (r := fun j => on[j]!) (nM_in ev) HN6.out off
      have C15 : Hid (Calls Try.prog 15 #[.slice qb i cb, .slice qc i cc, .int .i64 off, .int .i64 3000] wr (ResR wr (if off < 0 then 2 else 0) (resL off (nM ev) (fun j => [on[j]!]) i 3000))) := by
        have h := t15 (most := 3000) (off := off) (bv_of HI.out.bts) HI.out.ll.cv k1 k2 (by have := HN6.out; omega) hoff
        rw [Nat.min_self, hcd.1] at h
        exact h
      have C24 : Hid (∀ W, Up wr W → Calls Try.prog 24 #[.slice qr i cr, .slice qm i cm, .int .i64 off, .int .i64 3000] W (fun e w' => Hid (Up W w') ∧ (((if off < 0 then (2 : Int) else 0) ≠ 0 ∧ e = .returned (.tuple #[.slice none 0 0, .int .i64 (if off < 0 then 2 else 0)])) ∨ ((if off < 0 then (2 : Int) else 0) = 0 ∧ ∃ v, e = .returned (.tuple #[v, .int .i64 0]) ∧ Hid (Fo.OI W.heap.size w' v (Fo.nears (fun j => on[j]!) (nM ev) (min i i) off 3000)))))) := fun W hu => by
        have h := Fo.t24 qr qm i i cr cm (fun j => on[j]!) (nM ev) off 3000 W (ir_up (iv_ir HI.out.rr) hu) (ir_up (iv_ir HI.out.mm) hu) hoff
        unfold Fo.NearP at h
        rw [hcd.2] at h
        exact h
      have HU0 : Hid (Up w wr) := HI.out.up
      have hways : (¬ (i : Int) < ev.length) ∨ ((i : Int) < ev.length ∧ ¬ (i : Int) < on.length) ∨ ((i : Int) < ev.length ∧ (i : Int) < on.length ∧ ¬ (i : Int) < 6) := by have := HN.out; omega
      clear hcd
      by_cases ho : off < 0
      · rw [if_pos ho] at C15 C24
        have W15 : Hid (Calls Try.prog 15 #[.slice qb i cb, .slice qc i cc, .int .i64 off, .int .i64 3000] wr fun e w' => e = .returned (.tuple #[.slice none 0 0, .int .i64 2]) ∧ Hid (Up wr w')) := C15.out.mono fun e w' h => by
          rcases h with ⟨h1, ⟨_, h2⟩ | ⟨h2, _⟩⟩
          · exact ⟨h2, h1⟩
          · exact absurd h2 (by decide)
        have W24 : Hid (∀ W, Up wr W → Calls Try.prog 24 #[.slice qr i cr, .slice qm i cm, .int .i64 off, .int .i64 3000] W fun e w' => e = .returned (.tuple #[.slice none 0 0, .int .i64 2]) ∧ Hid (Up W w')) := fun W hu => (C24.out W hu).mono fun e w' h => by
          rcases h with ⟨h1, ⟨_, h2⟩ | ⟨h2, _⟩⟩
          · exact ⟨h2, h1⟩
          · exact absurd h2 (by decide)
        clear C15 C24
        rcases hways with hA | ⟨hA, hB⟩ | ⟨hA, hB, hC⟩
        · go_wp2_with (first
            | (go_at_call 15; (with_reducible refine W15.out.mono ?_); rintro e w7 ⟨rfl, HU7⟩; (have W24' := W24.out w7 HU7.out); (have W24H : Hid (Calls Try.prog 24 #[.slice qr i cr, .slice qm i cm, .int .i64 off, .int .i64 3000] w7 fun e w' => e = .returned (.tuple #[.slice none 0 0, .int .i64 2]) ∧ Hid (Up w7 w')) := W24'); clear W24')
            | (go_at_call 24; (with_reducible refine W24H.out.mono ?_); rintro e w8 ⟨rfl, HU8⟩))
          go_loopw [17] (fun vi wx => vi = .int .i64 0 ∧ w8 = wx) (fun _ _ => 0)
          case atStart => exact ⟨rfl, rfl⟩
          case round =>
            obtain ⟨rfl, hw⟩ := hrel
            subst hw
            go_wp2_with (go_at_call 12; (with_reducible refine (t12 _).mono ?_); rintro e w9 ⟨rfl, HU9⟩)
            go_ret
            exact ⟨rfl, HU0.out.trans (HU7.out.trans (HU8.out.trans HU9.out))⟩
        · go_wp2_with (first
            | (go_at_call 15; (with_reducible refine W15.out.mono ?_); rintro e w7 ⟨rfl, HU7⟩; (have W24' := W24.out w7 HU7.out); (have W24H : Hid (Calls Try.prog 24 #[.slice qr i cr, .slice qm i cm, .int .i64 off, .int .i64 3000] w7 fun e w' => e = .returned (.tuple #[.slice none 0 0, .int .i64 2]) ∧ Hid (Up w7 w')) := W24'); clear W24')
            | (go_at_call 24; (with_reducible refine W24H.out.mono ?_); rintro e w8 ⟨rfl, HU8⟩))
          go_loopw [17] (fun vi wx => vi = .int .i64 0 ∧ w8 = wx) (fun _ _ => 0)
          case atStart => exact ⟨rfl, rfl⟩
          case round =>
            obtain ⟨rfl, hw⟩ := hrel
            subst hw
            go_wp2_with (go_at_call 12; (with_reducible refine (t12 _).mono ?_); rintro e w9 ⟨rfl, HU9⟩)
            go_ret
            exact ⟨rfl, HU0.out.trans (HU7.out.trans (HU8.out.trans HU9.out))⟩
        · go_wp2_with (first
            | (go_at_call 15; (with_reducible refine W15.out.mono ?_); rintro e w7 ⟨rfl, HU7⟩; (have W24' := W24.out w7 HU7.out); (have W24H : Hid (Calls Try.prog 24 #[.slice qr i cr, .slice qm i cm, .int .i64 off, .int .i64 3000] w7 fun e w' => e = .returned (.tuple #[.slice none 0 0, .int .i64 2]) ∧ Hid (Up w7 w')) := W24'); clear W24')
            | (go_at_call 24; (with_reducible refine W24H.out.mono ?_); rintro e w8 ⟨rfl, HU8⟩))
          go_loopw [17] (fun vi wx => vi = .int .i64 0 ∧ w8 = wx) (fun _ _ => 0)
          case atStart => exact ⟨rfl, rfl⟩
          case round =>
            obtain ⟨rfl, hw⟩ := hrel
            subst hw
            go_wp2_with (go_at_call 12; (with_reducible refine (t12 _).mono ?_); rintro e w9 ⟨rfl, HU9⟩)
            go_ret
            exact ⟨rfl, HU0.out.trans (HU7.out.trans (HU8.out.trans HU9.out))⟩
      · rw [if_neg ho] at C15 C24
        have HEq : Hid (Fo.nears (fun j => on[j]!) (nM ev) (min i i) off 3000 = resL off (nM ev) (fun j => [on[j]!]) i 3000) := by
          show _ = _
          rw [Nat.min_self]
          exact (res_near (off := off) (r := fun j => on[j]!) (m := nM ev) (by omega) i 3000).symm
        have HLn : Hid ((resL off (nM ev) (fun j => [on[j]!]) i 3000).length ≤ 3000) := resL_len _ _ _ _ _
        have W15 : Hid (Calls Try.prog 15 #[.slice qb i cb, .slice qc i cc, .int .i64 off, .int .i64 3000] wr fun e w' => ∃ p c, e = .returned (.tuple #[.slice p (resL off (nM ev) (fun j => [on[j]!]) i 3000).length c, .int .i64 0]) ∧ Hid (Up wr w' ∧ Fo.IR w' p (resL off (nM ev) (fun j => [on[j]!]) i 3000).length (fun k => (resL off (nM ev) (fun j => [on[j]!]) i 3000)[k]!))) := C15.out.mono fun e w' h => by
          rcases h with ⟨h1, ⟨h2, _⟩ | ⟨_, p, c, h2, h3⟩⟩
          · exact absurd rfl h2
          · exact ⟨p, c, h2, h1.out, (Fo.OI.ir h3.out).2⟩
        have W24 : Hid (∀ W, Up wr W → Calls Try.prog 24 #[.slice qr i cr, .slice qm i cm, .int .i64 off, .int .i64 3000] W fun e w' => ∃ p c, e = .returned (.tuple #[.slice p (resL off (nM ev) (fun j => [on[j]!]) i 3000).length c, .int .i64 0]) ∧ Hid (Up W w' ∧ Fo.IR w' p (resL off (nM ev) (fun j => [on[j]!]) i 3000).length (fun k => (resL off (nM ev) (fun j => [on[j]!]) i 3000)[k]!))) := fun W hu => (C24.out W hu).mono fun e w' h => by
          rcases h with ⟨h1, ⟨h2, _⟩ | ⟨_, v, h2, h3⟩⟩
          · exact absurd rfl h2
          · rw [HEq.out] at h3
            obtain ⟨p, c, hv, _⟩ := Fo.own_form h3.out
            subst hv
            exact ⟨p, c, h2, h1.out, (Fo.OI.ir h3.out).2⟩
        clear C15 C24 HEq
        generalize resL off (nM ev) (fun j => [on[j]!]) i 3000 = L at *
        have hl3 : (L.length : Int) ≤ 3000 := by have := HLn.out; omega
        rcases hways with hA | ⟨hA, hB⟩ | ⟨hA, hB, hC⟩
        · go_wp2_with (first
            | (go_at_call 15; (with_reducible refine W15.out.mono ?_); rintro e w7 ⟨p7, c7, rfl, HX7⟩; (have W24H : Hid (Calls Try.prog 24 #[.slice qr i cr, .slice qm i cm, .int .i64 off, .int .i64 3000] w7 fun e w' => ∃ p c, e = .returned (.tuple #[.slice p L.length c, .int .i64 0]) ∧ Hid (Up w7 w' ∧ Fo.IR w' p L.length (fun k => L[k]!))) := W24.out w7 HX7.out.1))
            | (go_at_call 24; (with_reducible refine W24H.out.mono ?_); rintro e w8 ⟨p8, c8, rfl, HX8⟩))
          go_loopw [17] (fun vi wx => ∃ k : Nat, k ≤ L.length ∧ vi = .int .i64 k ∧ Hid (Up w8 wx)) (fun vi _ => L.length - (intOf vi).toNat)
          case atStart => exact ⟨0, by omega, rfl, Up.refl _⟩
          case round =>
            obtain ⟨k, hk, rfl, HWx⟩ := hrel
            rename World => wx
            by_cases hkl : k < L.length
            · obtain ⟨b1, o1, rfl, c1⟩ := (ir_up HX7.out.2 (HX8.out.1.trans HWx.out)) k hkl
              obtain ⟨b2, o2, rfl, c2⟩ := (ir_up HX8.out.2 HWx.out) k hkl
              simp only at c1 c2
              generalize L[k]! = zk at *
              have hk' : (k : Int) < L.length := by omega
              go_wp2_with fail
              go_quiet (fail)
              go_wp2
              go_roundw
              case rel => exact ⟨k + 1, by omega, by go_num, HWx.out.trans (Up.drewN _ _)⟩
              case measure => simp [intOf]; omega
            · obtain rfl : k = L.length := by omega
              go_wp2_with (go_at_call 12; (with_reducible refine (t12 _).mono ?_); rintro e w9 ⟨rfl, HU9⟩)
              go_ret
              exact ⟨rfl, HU0.out.trans (HX7.out.1.trans (HX8.out.1.trans (HWx.out.trans HU9.out)))⟩
        · go_wp2_with (first
            | (go_at_call 15; (with_reducible refine W15.out.mono ?_); rintro e w7 ⟨p7, c7, rfl, HX7⟩; (have W24H : Hid (Calls Try.prog 24 #[.slice qr i cr, .slice qm i cm, .int .i64 off, .int .i64 3000] w7 fun e w' => ∃ p c, e = .returned (.tuple #[.slice p L.length c, .int .i64 0]) ∧ Hid (Up w7 w' ∧ Fo.IR w' p L.length (fun k => L[k]!))) := W24.out w7 HX7.out.1))
            | (go_at_call 24; (with_reducible refine W24H.out.mono ?_); rintro e w8 ⟨p8, c8, rfl, HX8⟩))
          go_loopw [17] (fun vi wx => ∃ k : Nat, k ≤ L.length ∧ vi = .int .i64 k ∧ Hid (Up w8 wx)) (fun vi _ => L.length - (intOf vi).toNat)
          case atStart => exact ⟨0, by omega, rfl, Up.refl _⟩
          case round =>
            obtain ⟨k, hk, rfl, HWx⟩ := hrel
            rename World => wx
            by_cases hkl : k < L.length
            · obtain ⟨b1, o1, rfl, c1⟩ := (ir_up HX7.out.2 (HX8.out.1.trans HWx.out)) k hkl
              obtain ⟨b2, o2, rfl, c2⟩ := (ir_up HX8.out.2 HWx.out) k hkl
              simp only at c1 c2
              generalize L[k]! = zk at *
              have hk' : (k : Int) < L.length := by omega
              go_wp2_with fail
              go_quiet (fail)
              go_wp2
              go_roundw
              case rel => exact ⟨k + 1, by omega, by go_num, HWx.out.trans (Up.drewN _ _)⟩
              case measure => simp [intOf]; omega
            · obtain rfl : k = L.length := by omega
              go_wp2_with (go_at_call 12; (with_reducible refine (t12 _).mono ?_); rintro e w9 ⟨rfl, HU9⟩)
              go_ret
              exact ⟨rfl, HU0.out.trans (HX7.out.1.trans (HX8.out.1.trans (HWx.out.trans HU9.out)))⟩
        · go_wp2_with (first
            | (go_at_call 15; (with_reducible refine W15.out.mono ?_); rintro e w7 ⟨p7, c7, rfl, HX7⟩; (have W24H : Hid (Calls Try.prog 24 #[.slice qr i cr, .slice qm i cm, .int .i64 off, .int .i64 3000] w7 fun e w' => ∃ p c, e = .returned (.tuple #[.slice p L.length c, .int .i64 0]) ∧ Hid (Up w7 w' ∧ Fo.IR w' p L.length (fun k => L[k]!))) := W24.out w7 HX7.out.1))
            | (go_at_call 24; (with_reducible refine W24H.out.mono ?_); rintro e w8 ⟨p8, c8, rfl, HX8⟩))
          go_loopw [17] (fun vi wx => ∃ k : Nat, k ≤ L.length ∧ vi = .int .i64 k ∧ Hid (Up w8 wx)) (fun vi _ => L.length - (intOf vi).toNat)
          case atStart => exact ⟨0, by omega, rfl, Up.refl _⟩
          case round =>
            obtain ⟨k, hk, rfl, HWx⟩ := hrel
            rename World => wx
            by_cases hkl : k < L.length
            · obtain ⟨b1, o1, rfl, c1⟩ := (ir_up HX7.out.2 (HX8.out.1.trans HWx.out)) k hkl
              obtain ⟨b2, o2, rfl, c2⟩ := (ir_up HX8.out.2 HWx.out) k hkl
              simp only at c1 c2
              generalize L[k]! = zk at *
              have hk' : (k : Int) < L.length := by omega
              go_wp2_with fail
              go_quiet (fail)
              go_wp2
              go_roundw
              case rel => exact ⟨k + 1, by omega, by go_num, HWx.out.trans (Up.drewN _ _)⟩
              case measure => simp [intOf]; omega
            · obtain rfl : k = L.length := by omega
              go_wp2_with (go_at_call 12; (with_reducible refine (t12 _).mono ?_); rintro e w9 ⟨rfl, HU9⟩)
              go_ret
              exact ⟨rfl, HU0.out.trans (HX7.out.1.trans (HX8.out.1.trans (HWx.out.trans HU9.out)))⟩
end Go.Proofs.Ytijfmaepoamkgaa

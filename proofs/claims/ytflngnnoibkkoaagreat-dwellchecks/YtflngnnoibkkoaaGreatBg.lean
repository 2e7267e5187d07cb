/- Compress. -/
import Derived.Test.YtflngnnoibkkoaaGreatBf
import Derived.Test.YtflngnnoibkkoaaGreatM
namespace Go.Proofs.YtflngnnoibkkoaaGreat
open Go.ChangeShapes Go.WideShapes Go.ChangeAt Go.RowKit Go.Fl Ieee
set_option maxRecDepth 200000
set_option maxHeartbeats 8000000
attribute [local go_sem] run_store_float run_store_c isSome_set call34 call33 run_neg fold_eq fold_ne fold_lt fold_gt abs_eq

theorem splice_at (L X : List (Nat × Nat)) (off i : Nat) (h : off + X.length ≤ L.length) : (splice L off X)[i]! = if off ≤ i ∧ i < off + X.length then X[i - off]! else L[i]! := by
  simp only [getElem!_def, splice, List.getElem?_append, List.length_take, List.getElem?_take, List.getElem?_drop]
  by_cases h1 : i < off
  · rw [if_pos (by omega), if_pos h1, if_neg (by omega)]
  · rw [if_neg (by omega)]
    have e : i - min off L.length = i - off := by omega
    rw [e]
    by_cases h2 : i < off + X.length
    · rw [if_pos (by omega), if_pos (by omega)]
    · rw [if_neg (by omega), if_neg (by omega)]
      have e2 : off + X.length + (i - off - X.length) = i := by omega
      rw [e2]
theorem CRow.of_heap' {b g n : Nat} {w : World} {d : List (Nat × Nat)} (hl : d.length = n) (hb : b ≤ g) (hn : n ≤ 1000000) (h : w.heap[g]? = some (.cells (d.map ce).toArray 65 (0, 0))) : CRow b w (.slice (some ⟨g, 0, none⟩) n n) d := by
  subst hl
  refine ⟨by simp, Or.inr ⟨g, _, _, rfl, hb, h, Nat.le_refl _, by unfold maxLen; omega, by simp, ?_⟩⟩
  rw [List.take_of_length_le (by simp)]
/-- A stretch of the table's list is written anew. -/
theorem BT.spliced {w wr w' : World} {A B n m : Nat} {d X : List (Nat × Nat)} {x : Nat} (h : BT w wr A B n m d) (hK : n * m ≤ 1000000) (hx : x + X.length ≤ n * m) (h1 : w'.heap[B]? = some (.cells ((splice d x X).map ce).toArray 65 (0, 0))) (h2 : But B wr w') : BT w w' A B n m (splice d x X) := by
  have hl := h.all.len
  exact ⟨h.ne, h.loA, h.loB, h.ans.far h2 h.ne, CRow.of_heap' (by rw [length_splice _ _ _ (by omega)]; exact hl) h.loB hK h1, h2.up h.up h.loB⟩
/-- What Match tells of a row, in a row of its own. -/
theorem found_of {w1 w2 : World} {v : Value} {m : Nat} {ds : List (Nat × Nat)} {L : Nat → C2} (h0 : 0 < m) (h1 : CRow w1.heap.size w2 v ds) (h3 : ds.map ab2 = (List.range m).map L) :
    ∃ S cap, v = .slice (some ⟨S, 0, none⟩) m cap ∧ RD w2 S 0 m (fun i => ds[i]!) ∧ ds.length = m ∧ ∀ k, k < m → ab2 ds[k]! = L k := by
  have hl : ds.length = m := by
    have := congrArg List.length h3
    simpa using this
  obtain ⟨S, cap, rfl⟩ := row_form' h1 hl h0
  refine ⟨S, cap, rfl, fun j hj => by rw [Nat.zero_add]; exact h1.cell (by omega), hl, fun k hk => ?_⟩
  have e : (ds.map ab2)[k]? = ((List.range m).map L)[k]? := by rw [h3]
  rw [ab2_at (by omega), List.getElem?_map, List.getElem?_range hk] at e
  exact Option.some.inj e
theorem cut_at (f : Nat → Nat × Nat) (o k i : Nat) (hi : i < k) : (cut f o k)[i]! = f (o + i) := by
  rw [getElem!_pos _ _ (by rw [cut_len]; exact hi)]
  simp [cut]
set_option maxHeartbeats 4000000 in
theorem t60 {w : World} {R n m c : Nat} {P : Nat → Option Addr} {C G O : Nat → Nat} {f : Nat → Nat → Nat × Nat} {pg po x pc : Nat} {fp : Nat → Nat × Nat} (h : TI w R n m P C G O f) (hp : RD w pg po x fp) (hn0 : 0 < n) (hm0 : 0 < m) (hx0 : 0 < x) (hn : n ≤ 256) (hm : m ≤ 16384) (hx : x ≤ 16384) (hnm : n * m ≤ 262144) (hnn : n * m * x ≤ 16777216) :
    Calls Tryz.prog 60 #[.slice (some ⟨R, 0, none⟩) n c, .slice (some ⟨pg, po, none⟩) x pc] w (OKT w n m (fun p g => heldF (f p) m fp x g)) := by
  have HA : Hid (Calls Tryz.prog 95 #[.slice (some ⟨w.heap.size + 1 + 1, 0, none⟩) 4 4] (askCw w (.slice (some ⟨R, 0, none⟩) n c) x) (EU 0 (askCw w (.slice (some ⟨R, 0, none⟩) n c) x))) :=
    askC (b0 := false) (b1 := false) (b2 := false) (b3 := false) (fun w' hu => t96 R n c n P _ C false w' (h.tb.up hu) (by omega) (fun _ _ => by omega) hn0 (fun _ _ => rfl) (Or.inr ⟨rfl, rfl⟩)) (by simp; omega) (fun _ _ w' hu => t98c ((h.tv hn0).up hu) hn hm (by simpa using hnm)) (fun _ _ _ => ⟨m, h.tv hn0, hn, hm, Or.inr ⟨hx, by simpa using hnn⟩⟩) rfl
  have HT : Hid (TI w R n m P C G O f) := h
  have HW : Hid (RD w pg po x fp) := hp
  have HM : Hid (n * m ≤ 262144) := hnm
  have HMX : Hid (m * x ≤ 16777216) := by
    have h1 : 1 * (m * x) ≤ n * (m * x) := Nat.mul_le_mul_right _ hn0
    have h2 := Nat.mul_assoc n m x
    show _ ≤ _
    omega
  clear h hnm hp hnn
  go_enter Tryz.func60, Tryz.ntmps60
  go_wp2_with (first
    | (go_at_call 95; (with_reducible refine HA.out.mono ?_); rintro e W ⟨rfl, HU⟩; clear HA
       have HU1 : Hid (Up w W) := (((boxC_cells w (.slice (some ⟨R, 0, none⟩) n c) x).2.2.trans (Up.alloc _ _)).trans HU.out)
       have x1 := cell_up (boxC_cells w (.slice (some ⟨R, 0, none⟩) n c) x).1 ((Up.alloc _ _).trans HU.out)
       clear HU)
    | (go_at_call 102; (with_reducible refine (t102 ((HT.out.tv hn0).up HU1.out) (by omega)).mono ?_); rintro e w' ⟨rfl, rfl⟩)
    | (go_at_call 101; (with_reducible refine (t101 n m _ (by omega) hm HM.out).mono ?_); rintro e w3 ⟨A, B, rfl, HB⟩))
  have HS : Hid (BT w w3 A B n m (List.replicate (n * m) (0, 0))) := HB.out.base HU1.out
  clear HB HU1 x1
  go_loopw [39] (fun vi wr => ∃ (p : Nat) (d : List (Nat × Nat)), p ≤ n ∧ vi = .int .i64 p ∧ Hid (BT w wr A B n m d) ∧ Hid (∀ k, k < p → ∀ g, g < m → ab2 d[k * m + g]! = heldF (f k) m fp x g)) (fun vi _ => n - (intOf vi).toNat)
  case atStart => exact ⟨0, _, by omega, rfl, HS, fun k hk => by omega⟩
  case round =>
    clear HS
    obtain ⟨p, d, hp, rfl, HS, HD⟩ := hrel
    by_cases hlt : p < n
    · have y1 : (p : Int) < (n : Int) := by omega
      have y2 : (0 : Int) ≤ (p : Int) := by omega
      have c1 := ((HT.out.up HS.out.up).cell hlt hm0).1
      obtain ⟨z, hz⟩ : ∃ z, p * m = z := ⟨_, rfl⟩
      have HZ : Hid (p * m = z) := hz
      clear hz
      go_wp2_with fail
      (with_reducible refine (t103 _ _ _ _ _ _ _ _ (f p) fp _ ((HT.out.up HS.out.up).rd p hlt hm0).2 (HW.out.up HS.out.up) (HT.out.room p hlt) (by omega) hm hx HMX.out).mono ?_)
      rintro e w4 ⟨v4, ds, rfl, h1, h2, h3⟩
      obtain ⟨S, cap, rfl, k1, k2, k3⟩ := found_of hm0 h1.out h3.out
      have HF : Hid (RD w4 S 0 m (fun i => ds[i]!)) := k1
      have HFE : Hid (∀ k, k < m → ab2 ds[k]! = heldF (f p) m fp x k) := k3
      have HFL : Hid (ds.length = m) := k2
      have HS4 : Hid (BT w w4 A B n m d) := HS.out.mono h2.out
      have c2 := (HS4.out.rows hlt hm0 HZ.out).1
      clear h1 h2 h3 k1 k2 k3 HS
      have HH : Hid (w4.heap[B]? = some (.cells (d.map ce).toArray 65 (0, 0))) := HS4.out.all.heap
      have hfit : z + m ≤ d.length := by
        have h5 : (p + 1) * m ≤ n * m := Nat.mul_le_mul_right m (show p + 1 ≤ n by omega)
        have h6 := Nat.succ_mul p m
        have h7 := HS4.out.all.len
        have h8 := HZ.out
        have h9 : p.succ = p + 1 := rfl
        rw [h9] at h6
        omega
      go_wp2_with ((with_reducible refine upon_copy (s := 0) (cur := d) HH HF rfl (by omega) (by omega) hfit ?_); intro w5 HC5 HB5)
      go_roundw
      case rel =>
        have hl : (cut (fun i => ds[i]!) 0 m).length = m := cut_len _ _ _
        have hln := HS4.out.all.len
        have hM := HM.out
        refine ⟨p + 1, _, by omega, by go_num, HS4.out.spliced (by omega) (by rw [hl]; omega) HC5.out HB5.out, fun k hk g hg => ?_⟩
        rw [splice_at _ _ _ _ (by rw [hl]; exact hfit), hl]
        by_cases e : k = p
        · subst e
          rw [if_pos (by have := HZ.out; omega), HZ.out, show z + g - z = g by omega, cut_at _ _ _ _ hg, Nat.zero_add]
          exact HFE.out g hg
        · rw [if_neg (fun h => ?_)]
          · exact HD.out k (by omega) g hg
          · have h8 := HZ.out
            obtain ⟨q, hq⟩ : ∃ q, k * m + g = p * m + q ∧ q < m := ⟨k * m + g - z, by omega, by omega⟩
            exact e (idx_inj hq.1 hg hq.2).1
      case measure => simp [intOf]; omega
    · obtain rfl : p = n := by omega
      go_wp2
      go_ret2
      exact ⟨A, B, d, rfl, HS, HD⟩
end Go.Proofs.YtflngnnoibkkoaaGreat
/- A source: New, Next, Skip, State. -/
namespace Go.Proofs.YtflngnnoibkkoaaGreat
open Go.ChangeShapes Go.WideShapes Go.ChangeAt Go.RowKit Go.Fl Ieee
set_option maxRecDepth 200000
set_option maxHeartbeats 8000000
attribute [local go_sem] run_store_float run_store_complex call34 call33 run_neg fold_eq fold_ne fold_lt fold_gt abs_eq

/-- A number laid over what of it is shifted down. -/
def xs (z d : Int) : Int := bits BinOp.xor IntKind.u64 z (z / d)
def m1 (z : Int) : Int := IntKind.u64.wrap (xs z 1073741824 * 13787848793156543929)
def m2 (z : Int) : Int := IntKind.u64.wrap (xs z 134217728 * 10723151780598845931)
/-- A step's answer. -/
def stir (z : Int) : Int := xs (m2 (m1 z)) 2147483648
/-- A leap. -/
def adv (s n : Int) : Int := IntKind.u64.wrap (s + IntKind.u64.wrap (n * 11400714819323198485))
/-- So many steps. -/
def it (s : Int) : Nat → Int
  | 0 => s
  | k + 1 => adv (it s k) 1
theorem But.drewN (g : Nat) (w : World) (n : Nat) : But g w (w.drewN n) := But.of_up (Up.drewN w n)
/-- A source: its block, its state. -/
structure SC (w : World) (b : Nat) (s : Int) : Prop where
  c : w.cell? ⟨b, 0, none⟩ = some (.int .u64 s)
  f : w.frozen? ⟨b, 0, none⟩ = false
theorem SC.lt {w : World} {b : Nat} {s : Int} (h : SC w b s) : b < w.heap.size := World.block_lt_of_cell? w _ h.c
theorem SC.but {g : Nat} {w w' : World} {b : Nat} {s : Int} (h : SC w b s) (hb : But g w w') (hne : b ≠ g) : SC w' b s :=
  ⟨hb.cell hne h.c, (World.grownBy.frozen_far hb ⟨b, 0, none⟩ h.lt (by simpa using hne)).trans h.f⟩
theorem SC.up {w w' : World} {b : Nat} {s : Int} (h : SC w b s) (hu : Up w w') : SC w' b s := h.but (g := b + 1) (But.of_up hu) (by omega)
theorem SC.new (w : World) (s : Int) (t : TypeId) : SC (w.alloc (.cells #[.int .u64 s] t)) w.heap.size s := by
  have hh := heap_alloc_last w (.cells #[.int .u64 s] t)
  exact ⟨by rw [cell_of_row _ _ _ _ _ _ hh]; rfl, World.frozen?_alloc_at _ _ _ _ rfl⟩
theorem SC.put {w : World} {b : Nat} {s : Int} (h : SC w b s) (s' : Int) : SC (w.setCell ⟨b, 0, none⟩ (.int .u64 s')) b s' ∧ But b w (w.setCell ⟨b, 0, none⟩ (.int .u64 s')) := by
  refine ⟨⟨World.cell?_setCell_same' w ⟨b, 0, none⟩ _ (by rw [h.c]; rfl), (World.frozen?_setCell _ _ _ _).trans h.f⟩, ?_⟩
  exact ⟨rfl, rfl, rfl, by simp, fun k _ hk => heap_setCell_other w ⟨b, 0, none⟩ k _ (fun e => hk (by rw [e]))⟩
/-- What a call of a source leaves: its answer, its state. -/
def NX (w : World) (b : Nat) (s : Int) (v : Value) (e : Ending) (w' : World) : Prop := e = .returned v ∧ Hid (SC w' b s) ∧ Hid (But b w w')
def NF (w : World) (b : Nat) (s : Int) (v : Option Nat) (e : Ending) (w' : World) : Prop := ∃ r, e = .returned (.float .f64 r) ∧ Hid (ab r = v) ∧ Hid (SC w' b s) ∧ Hid (But b w w')

theorem t211 (z : Int) (w : World) : Calls Tryz.prog 211 #[.int .u64 z] w fun e w' => e = .returned (.int .u64 (stir z)) ∧ w' = w := by
  go_enter Tryz.func211, Tryz.ntmps211
  go_wp2
  go_ret
  exact ⟨rfl, rfl⟩
theorem t210 {b : Nat} {s : Int} {w : World} (h : SC w b s) (n : Int) : Calls Tryz.prog 210 #[.pointer (some ⟨b, 0, none⟩), .int .u64 n] w (NX w b (adv s n) (.tuple #[])) := by
  have H : Hid (SC w b s) := h
  have hc := h.c
  have hf := h.f
  clear h
  go_enter Tryz.func210, Tryz.ntmps210
  go_wp2
  go_end0
  exact ⟨rfl, (H.out.put _).1, (H.out.put _).2⟩
theorem t57 (s : Int) (w : World) : Calls Tryz.prog 57 #[.int .u64 s] w fun e w' => e = .returned (.pointer (some ⟨w.heap.size, 0, none⟩)) ∧ Hid (SC w' w.heap.size s) ∧ Hid (Up w w') := by
  go_enter Tryz.func57, Tryz.ntmps57
  go_wp2
  go_ret
  exact ⟨rfl, SC.new _ _ _, Up.alloc _ _⟩
theorem t192 {b : Nat} {s : Int} {w : World} (h : SC w b s) : Calls Tryz.prog 192 #[.pointer (some ⟨b, 0, none⟩)] w (NX w b (adv s 1) (.int .u64 (stir (adv s 1)))) := by
  have H : Hid (SC w b s) := h
  clear h
  go_enter Tryz.func192, Tryz.ntmps192
  go_wp2_with (first
    | (go_at_call 210; (with_reducible refine (t210 H.out _).mono ?_); rintro e w1 ⟨rfl, h1, hb1⟩; have hc1 := h1.out.c)
    | (go_at_call 211; (with_reducible refine (t211 _ _).mono ?_); rintro e w2 ⟨rfl, rfl⟩))
  go_ret
  exact ⟨rfl, h1, hb1⟩
end Go.Proofs.YtflngnnoibkkoaaGreat
/- Float, Bell, Pair. -/
namespace Go.Proofs.YtflngnnoibkkoaaGreat
open Go.ChangeShapes Go.WideShapes Go.ChangeAt Go.RowKit Go.Fl Ieee
set_option maxRecDepth 200000
set_option maxHeartbeats 8000000
attribute [local go_sem] run_store_float run_store_complex call34 call33 run_neg fold_eq fold_ne fold_lt fold_gt abs_eq

/-- What Float tells of a state. -/
def fltF (s : Int) : Option Nat := bin .quo (ab (floatOfInt .f64 (stir (adv s 1) / 2048))) (ab 4845873199050653696)
/-- The sum of k + 1 of them. -/
def sumF (s : Int) : Nat → Option Nat
  | 0 => fltF s
  | k + 1 => bin .add (sumF s k) (fltF (it s (k + 1)))
def bellF (s : Int) : Option Nat := bin .sub (sumF s 11) (ab 4618441417868443648)
def pairF (s : Int) (x : Nat) : Option Nat × Option Nat := (bin .mul (bellF s) (ab x), bin .mul (bellF (it s 12)) (ab x))
theorem it_add (s : Int) (k : Nat) : ∀ j, it (it s k) j = it s (k + j)
  | 0 => rfl
  | j + 1 => by show adv (it (it s k) j) 1 = adv (it s (k + j)) 1; rw [it_add s k j]

theorem t161 {b : Nat} {s : Int} {w : World} (h : SC w b s) : Calls Tryz.prog 161 #[.pointer (some ⟨b, 0, none⟩)] w (NF w b (adv s 1) (fltF s)) := by
  have H : Hid (SC w b s) := h
  clear h
  go_enter Tryz.func161, Tryz.ntmps161
  go_wp2_with (first
    | (go_at_call 192; (with_reducible refine (t192 H.out).mono ?_); rintro e w1 ⟨rfl, h1, hb1⟩)
    | ((with_reducible refine upon_fl (by simp) ?_); intro r n hr))
  go_ret
  exact ⟨r, rfl, hr, h1.out.up (Up.drewN _ _), hb1.out.trans (But.drewN _ _ _)⟩
/-- A bell under way: k + 1 Floats are added. -/
structure BW (w wr : World) (b : Nat) (s : Int) (r k : Nat) : Prop where
  sc : SC wr b (it s (k + 1))
  but : But b w wr
  sum : ab r = sumF s k
theorem BW.step {w wr w1 : World} {b : Nat} {s : Int} {r r1 r2 k n : Nat} (h : BW w wr b s r k) (sc : SC w1 b (adv (it s (k + 1)) 1)) (hb : But b wr w1) (h1 : ab r1 = fltF (it s (k + 1))) (h2 : ab r2 = bin .add (ab r) (ab r1)) : BW w (w1.drewN n) b s r2 (k + 1) :=
  ⟨SC.up (s := it s (k + 1 + 1)) sc (Up.drewN _ _), (h.but.trans hb).trans (But.drewN _ _ _), by rw [h2, h1, h.sum]; rfl⟩
theorem t130 {b : Nat} {s : Int} {w : World} (h : SC w b s) : Calls Tryz.prog 130 #[.pointer (some ⟨b, 0, none⟩)] w (NF w b (it s 12) (bellF s)) := by
  have H : Hid (SC w b s) := h
  clear h
  go_enter Tryz.func130, Tryz.ntmps130
  go_wp2_with (go_at_call 161; (with_reducible refine (t161 H.out).mono ?_); rintro e w1 ⟨r, rfl, hr, h1, hb1⟩)
  have HB : Hid (BW w w1 b s r 0) := ⟨h1.out, hb1.out, hr.out⟩
  clear h1 hb1 hr H
  go_loopw [3, 8] (fun v i wr => ∃ k r : Nat, k ≤ 11 ∧ v = .float .f64 r ∧ i = .int .i64 k ∧ Hid (BW w wr b s r k)) (fun _ i _ => 11 - (intOf i).toNat)
  case atStart => exact ⟨0, _, by omega, rfl, rfl, HB⟩
  case round =>
    clear HB
    obtain ⟨k, r, hk, rfl, rfl, HB⟩ := hrel
    by_cases hlt : k < 11
    · have hkz : (k : Int) < 11 := by omega
      go_wp2_with (first
        | (go_at_call 161; (with_reducible refine (t161 HB.out.sc).mono ?_); rintro e w1 ⟨r1, rfl, hr1, h1, hb1⟩)
        | ((with_reducible refine upon_fl (by simp) ?_); intro r2 n hr2))
      go_roundw
      case rel => exact ⟨k + 1, _, by omega, rfl, by go_num, HB.out.step h1.out hb1.out hr1.out hr2.out⟩
      case measure => simp [intOf]; omega
    · obtain rfl : k = 11 := by omega
      go_wp2_with ((with_reducible refine upon_fl (by simp) ?_); intro r2 n hr2)
      go_ret
      exact ⟨_, rfl, by show _ = _; rw [hr2.out, HB.out.sum]; rfl, HB.out.sc.up (Up.drewN _ _), HB.out.but.trans (But.drewN _ _ _)⟩
/-- What a Pair leaves: the program's; the reference's. -/
def NP (w : World) (b : Nat) (s : Int) (v : Option Nat × Option Nat) (e : Ending) (w' : World) : Prop := ∃ x y, e = .returned (.complex .f64 x y) ∧ Hid (ab2 (x, y) = v) ∧ Hid (SC w' b s) ∧ Hid (But b w w')
theorem t94 {b : Nat} {s : Int} {w : World} (h : SC w b s) (x : Nat) : Calls Tryz.prog 94 #[.pointer (some ⟨b, 0, none⟩), .float .f64 x] w (NP w b (it s 24) (pairF s x)) := by
  have H : Hid (SC w b s) := h
  clear h
  go_enter Tryz.func94, Tryz.ntmps94
  go_wp2_with (first
    | (go_at_call 130; (with_reducible refine (t130 H.out).mono ?_); rintro e w1 ⟨r1, rfl, hr1, h1, hb1⟩; clear H)
    | ((with_reducible refine upon_fl (by simp) ?_); intro r2 n2 hr2; have h2 : Hid (SC (w1.drewN n2) b (it s 12)) := h1.out.up (Up.drewN _ _); have hb2 : Hid (But b w (w1.drewN n2)) := hb1.out.trans (But.drewN _ _ _); clear h1 hb1)
    | (go_at_call 130; (with_reducible refine (t130 h2.out).mono ?_); rintro e w3 ⟨r3, rfl, hr3, h3, hb3⟩)
    | ((with_reducible refine upon_fl (by simp) ?_); intro r4 n4 hr4))
  go_ret
  refine ⟨_, _, rfl, ?_, ?_, (hb2.out.trans hb3.out).trans (But.drewN _ _ _)⟩
  · show (_, _) = pairF s x
    rw [hr2.out, hr4.out, hr1.out, hr3.out]; rfl
  · have := h3.out.up (Up.drewN _ n4)
    rw [it_add] at this; exact this
end Go.Proofs.YtflngnnoibkkoaaGreat
/- The leaves of the chapter: finite, alike by bits, the reference's Wrap, a stretch's seconds, the plain beat. -/
namespace Go.Proofs.YtflngnnoibkkoaaGreat
open Go.ChangeShapes Go.WideShapes Go.ChangeAt Go.RowKit Go.Fl Ieee
set_option maxRecDepth 200000
set_option maxHeartbeats 8000000
attribute [local go_sem] run_store_float call34 call33 run_neg fold_eq fold_ne fold_lt fold_gt abs_eq

theorem t37 (x : Nat) (w : World) : Calls Tryz.prog 37 #[.float .f64 x] w fun e w' => e = .returned (.bool (fin (ab x))) ∧ w' = w := by
  go_enter Tryz.func37, Tryz.ntmps37
  go_wp2_with (first | (go_at_call 51; refine (t51 _ _).mono ?_; rintro e w' ⟨rfl, rfl⟩) | (go_at_call 52; refine (t52 _ _).mono ?_; rintro e w' ⟨rfl, rfl⟩))
  all_goals (go_ret; go_tidy; simp_all [fin])
end Go.Proofs.YtflngnnoibkkoaaGreat
/- Floats as rational numbers: how far a rounded number is from the exact one; rounding keeps an order. No program is spoken of here. -/
namespace Go.Fl
open Ieee Go.RowKit
set_option maxRecDepth 200000
set_option maxHeartbeats 8000000

theorem two_ne : (2 : Rat) ≠ 0 := by decide
/-- A power of two. -/
def pw (e : Int) : Rat := (2 : Rat) ^ e
theorem pw_add (a b : Int) : pw (a + b) = pw a * pw b := Rat.zpow_add two_ne a b
theorem pw_nat (n : Nat) : pw (n : Int) = ((2 ^ n : Nat) : Rat) := by
  induction n with
  | zero => rfl
  | succ k ih =>
    rw [show ((k + 1 : Nat) : Int) = (k : Int) + 1 by omega, pw_add, ih, Nat.pow_succ]
    rw [show pw 1 = ((2 : Nat) : Rat) by decide +kernel, ← Rat.natCast_mul]
theorem pw_pos (e : Int) : 0 < pw e := by
  have h : ∀ n : Nat, 0 < pw (n : Int) := fun n => by
    rw [pw_nat]; exact Rat.natCast_pos.2 (Nat.two_pow_pos n)
  rcases Int.le_total 0 e with he | he
  · obtain ⟨n, rfl⟩ := Int.eq_ofNat_of_zero_le he
    exact h n
  · obtain ⟨n, hn⟩ := Int.eq_ofNat_of_zero_le (show 0 ≤ -e by omega)
    have e1 : pw e * pw (n : Int) = 1 := by
      rw [← pw_add, show e + (n : Int) = 0 by omega]; rfl
    have hp := h n
    rcases Rat.le_total (a := pw e) (b := 0) with h1 | h1
    · exfalso
      have := Rat.mul_le_mul_of_nonneg_right h1 (Rat.le_of_lt hp)
      grind
    · grind
theorem pw_mono {a b : Int} (h : a ≤ b) : pw a ≤ pw b := by
  obtain ⟨n, rfl⟩ := Int.le.dest h
  rw [pw_add, pw_nat]
  have h1 : (1 : Rat) ≤ ((2 ^ n : Nat) : Rat) := by
    rw [show (1 : Rat) = ((1 : Nat) : Rat) by rfl]; exact Rat.natCast_le_natCast.2 Nat.one_le_two_pow
  have := Rat.mul_le_mul_of_nonneg_left h1 (Rat.le_of_lt (pw_pos a))
  grind
/-- A whole number of units, scaled. -/
theorem pw_split {e k : Int} (h : k ≤ e) : pw e = ((2 ^ (e - k).toNat : Nat) : Rat) * pw k := by
  rw [← pw_nat, ← pw_add]
  congr 1
  omega
/-- The number that a finite float is. -/
def val (x : Nat) : Rat := ((sgn (x / 2 ^ 63 % 2 == 1) (mag (x % 2 ^ 63)) : Int) : Rat) * pw (-1074)
def dv (s : Bool) (m : Nat) (e : Int) : Rat := ((sgn s m : Int) : Rat) * pw e
theorem sgn_mul (s : Bool) (m k : Nat) : sgn s (m * k) = sgn s m * (k : Int) := by
  unfold sgn; split <;> simp [Int.neg_mul]
theorem val_read {x : Nat} {s : Bool} {m : Nat} {e : Int} (h : double.read x = .number s m e) : val x = dv s m e := by
  obtain ⟨h1, h2, h3, h4⟩ := read_num h
  unfold val dv
  rw [← h1, ← h4, sgn_mul, pw_split h3, Rat.intCast_mul, Rat.mul_assoc]
  congr 2
theorem val_word (s : Bool) {r : Nat} (h : r < 2 ^ 63) : val (double.word s r) = dv s (mag r) (-1074) := by
  unfold val dv
  have e : double.signWeight = 2 ^ 63 := rfl
  rw [word_mod s r h]
  congr 3
  unfold Format.word
  rw [e]
  cases s
  · simp; omega
  · simp
    omega

/-! Rounding, over whole numbers. -/
theorem cut_err (neg : Bool) (n drop : Nat) : 2 * (Toward.even.cut neg n drop * 2 ^ drop) ≤ 2 * n + 2 ^ drop ∧ 2 * n ≤ 2 * (Toward.even.cut neg n drop * 2 ^ drop) + 2 ^ drop := by
  unfold Toward.cut
  simp only [Nat.one_shiftLeft]
  rcases Nat.lt_or_ge (n.log2 + 2) drop with h | h
  · rw [Nat.min_eq_right (Nat.le_of_lt h)]
    have hn : n < 2 ^ (n.log2 + 1) := Nat.lt_log2_self
    have e1 : 2 ^ (n.log2 + 2) = 2 * 2 ^ (n.log2 + 1) := by rw [Nat.pow_succ]; omega
    have e2 : n / 2 ^ (n.log2 + 2) = 0 := Nat.div_eq_of_lt (by omega)
    have e3 : n % 2 ^ (n.log2 + 2) = n := Nat.mod_eq_of_lt (by omega)
    have e4 : 2 ^ (n.log2 + 2) ≤ 2 ^ drop := Nat.pow_le_pow_right (by omega) (Nat.le_of_lt h)
    rw [e2, e3]
    have f1 : decide (2 ^ (n.log2 + 2) < 2 * n) = false := by simp; omega
    have f2 : (2 ^ (n.log2 + 2) == 2 * n) = false := by rw [beq_eq_false_iff_ne]; omega
    simp only [f1, f2, Bool.false_and, Bool.or_false, Bool.toNat_false, Nat.zero_add, Nat.zero_mul]
    omega
  · rw [Nat.min_eq_left h]
    have hd := Nat.div_add_mod n (2 ^ drop)
    have hp := Nat.two_pow_pos drop
    have hm := Nat.mod_lt n hp
    generalize 2 ^ drop = g at *
    generalize n / g = q at *
    generalize n % g = r at *
    have e : ∀ k : Nat, (q + k) * g = g * q + k * g := fun k => by rw [Nat.add_mul, Nat.mul_comm q]
    rw [e]
    generalize g * q = t at *
    cases hb : (decide (g < 2 * r) || (g == 2 * r && q % 2 == 1))
    · simp only [Bool.or_eq_false_iff, decide_eq_false_iff_not] at hb
      simp; omega
    · simp only [Bool.or_eq_true, decide_eq_true_eq, Bool.and_eq_true, beq_iff_eq] at hb
      simp; omega

theorem mag_rung {L k : Nat} (hk : k ≤ 2 ^ 53) (hL : L = 0 ∨ 2 ^ 52 ≤ k) : mag (L * 2 ^ 52 + k) = k * 2 ^ L := by
  unfold mag
  rcases Nat.lt_or_ge k (2 ^ 52) with h | h
  · obtain rfl : L = 0 := by omega
    rw [if_pos (by omega)]; simp
  · rw [if_neg (by omega)]
    rcases Nat.lt_or_ge k (2 ^ 53) with h2 | h2
    · have e1 : (L * 2 ^ 52 + k) / 2 ^ 52 = L + 1 := by omega
      have e2 : (L * 2 ^ 52 + k) % 2 ^ 52 = k - 2 ^ 52 := by omega
      have e3 : 2 ^ 52 + (k - 2 ^ 52) = k := by omega
      rw [e1, e2, e3, Nat.add_sub_cancel]
    · obtain rfl : k = 2 ^ 53 := by omega
      have e1 : (L * 2 ^ 52 + 2 ^ 53) / 2 ^ 52 = L + 2 := by omega
      have e2 : (L * 2 ^ 52 + 2 ^ 53) % 2 ^ 52 = 0 := by omega
      rw [e1, e2]
      simp only [Nat.add_zero, show L + 2 - 1 = L + 1 by omega, Nat.pow_succ 2 L]
      omega
/-- A float that is neither endless nor NaN. -/
def Fnt (x : Nat) : Prop := x % 2 ^ 63 < 0x7ff0000000000000
theorem fin_read {x : Nat} (h : Fnt x) : ∃ s m e, double.read x = .number s m e := by
  unfold Fnt at h
  unfold Format.read
  have e1 : double.signWeight = 2 ^ 63 := rfl
  have e2 : double.binade = 2 ^ 52 := rfl
  have e3 : double.infRung = 0x7ff0000000000000 := rfl
  simp only [e1, e2, e3, if_pos h]
  split
  · exact ⟨_, _, _, rfl⟩
  · exact ⟨_, _, _, rfl⟩
theorem Fnt.num {x : Nat} (h : Fnt x) : isN x = false := by
  unfold Fnt at h
  rw [isN_mod]; simp; omega
/-- What the nearest float to a number is. -/
structure Rounds (s : Bool) (m : Nat) (e : Int) (r : Nat) (last : Int) (kept : Nat) : Prop where
  least : -1074 ≤ last
  value : val r = dv s kept last
  fin : Fnt r
  up : 2 * ((kept : Rat) * pw last) ≤ 2 * ((m : Rat) * pw e) + pw last
  down : 2 * ((m : Rat) * pw e) ≤ 2 * ((kept : Rat) * pw last) + pw last
  rel : last = -1074 ∨ pw (last + 52) ≤ (m : Rat) * pw e
  exact : last ≤ e → (kept : Rat) * pw last = (m : Rat) * pw e
  most : kept ≤ 2 ^ 53
  low : last = -1074 ∨ 2 ^ 52 ≤ kept
theorem shl (m k : Nat) : m <<< k = m * 2 ^ k := Nat.shiftLeft_eq m k
theorem rounds (s : Bool) {m : Nat} {e : Int} (hm : 0 < m) (hbig : e + m.log2 ≤ 1022) : ∃ last kept, Rounds s m e (double.nearest s m e) last kept := by
  have e1 : double.leastPlace = -1074 := rfl
  have e2 : double.binade = 2 ^ 52 := rfl
  have e3 : double.infRung = 0x7ff0000000000000 := rfl
  have e4 : double.fractionBits = 52 := rfl
  have hlog : 2 ^ m.log2 ≤ m := Nat.log2_self_le (by omega)
  have hlog2 : m < 2 ^ (m.log2 + 1) := Nat.lt_log2_self
  unfold Format.nearest
  rw [if_neg (by omega)]
  simp only [e1, e2, e3, e4, shl]
  generalize hl : max (e + (m.log2 : Int) - 52) (-1074) = last
  have hmpos : (0 : Rat) < m := Rat.natCast_pos.2 hm
  -- the shifted number, and its bounds
  obtain ⟨n, hn⟩ : ∃ n, n = m * 2 ^ (e - last).toNat := ⟨_, rfl⟩
  obtain ⟨d, hd⟩ : ∃ d, d = (last - e).toNat := ⟨_, rfl⟩
  rw [← hn, ← hd]
  obtain ⟨k, hk⟩ : ∃ k, k = Toward.even.cut s n d := ⟨_, rfl⟩
  have herr := cut_err s n d
  rw [← hk] at herr ⊢
  have hpd := Nat.two_pow_pos d
  -- n below 2^(53 + d), and from 2^(52 + d) on where it is no subnormal number
  have hnd : n < 2 ^ (53 + d) := by
    rcases Int.le_total e last with h | h
    · have : (e - last).toNat = 0 := by omega
      rw [hn, this, Nat.pow_zero, Nat.mul_one]
      exact Nat.lt_of_lt_of_le hlog2 (Nat.pow_le_pow_right (by omega) (by omega))
    · have h0 : d = 0 := by omega
      rw [hn, h0, Nat.add_zero]
      have : 2 ^ (m.log2 + 1) * 2 ^ (e - last).toNat ≤ 2 ^ 53 := by
        rw [← Nat.pow_add]; exact Nat.pow_le_pow_right (by omega) (by omega)
      exact Nat.lt_of_lt_of_le (Nat.mul_lt_mul_of_pos_right hlog2 (Nat.two_pow_pos _)) this
  have hnl : last = -1074 ∨ 2 ^ (52 + d) ≤ n := by
    rcases Int.le_total (e + m.log2 - 52) (-1074) with h | h
    · left; omega
    · right
      rcases Int.le_total e last with h' | h'
      · have h0 : (e - last).toNat = 0 := by omega
        rw [hn, h0, Nat.pow_zero, Nat.mul_one]
        exact Nat.le_trans (Nat.pow_le_pow_right (by omega) (by omega)) hlog
      · have h0 : d = 0 := by omega
        rw [hn, h0, Nat.add_zero]
        have : 2 ^ 52 ≤ 2 ^ m.log2 * 2 ^ (e - last).toNat := by
          rw [← Nat.pow_add]; exact Nat.pow_le_pow_right (by omega) (by omega)
        exact Nat.le_trans this (Nat.mul_le_mul_right _ hlog)
  have hk53 : k ≤ 2 ^ 53 := by
    have a : 2 ^ (53 + d) = 2 ^ 53 * 2 ^ d := Nat.pow_add _ _ _
    rcases Nat.lt_or_ge (2 ^ 53) k with h | h
    · exfalso
      have := Nat.mul_le_mul_right (2 ^ d) h
      have e : (2 ^ 53).succ * 2 ^ d = 2 ^ 53 * 2 ^ d + 2 ^ d := Nat.succ_mul _ _
      generalize 2 ^ 53 * 2 ^ d = A at *
      generalize k * 2 ^ d = B at *
      omega
    · exact h
  have hk52 : last = -1074 ∨ 2 ^ 52 ≤ k := by
    rcases hnl with h | h
    · exact Or.inl h
    · right
      have a : 2 ^ (52 + d) = 2 ^ 52 * 2 ^ d := Nat.pow_add _ _ _
      rcases Nat.lt_or_ge k (2 ^ 52) with h' | h'
      · exfalso
        have := Nat.mul_le_mul_right (2 ^ d) (show k + 1 ≤ 2 ^ 52 from h')
        have e : (k + 1) * 2 ^ d = k * 2 ^ d + 2 ^ d := Nat.succ_mul _ _
        generalize 2 ^ 52 * 2 ^ d = A at *
        generalize k * 2 ^ d = B at *
        omega
      · exact h'
  have hlast : -1074 ≤ last ∧ last ≤ 970 := by omega
  obtain ⟨L, hL⟩ := Int.eq_ofNat_of_zero_le (show 0 ≤ last - -1074 by omega)
  have hLt : (last - -1074).toNat = L := by omega
  rw [hLt]
  have hr : L * 2 ^ 52 + k < 0x7ff0000000000000 := by omega
  rw [Nat.min_eq_left (by omega)]
  have hmag : mag (L * 2 ^ 52 + k) = k * 2 ^ L := mag_rung hk53 (by omega)
  have hpl : pw last = ((2 ^ L : Nat) : Rat) * pw (-1074) := by
    rw [pw_split hlast.1, show (last - -1074).toNat = L by omega]
  -- n and m: the same number in other units
  have hval : (n : Rat) * pw (last - d) = (m : Rat) * pw e := by
    rw [hn, Rat.natCast_mul, Rat.mul_assoc, ← pw_nat, ← pw_add]
    congr 2
    omega
  have hunit : pw last = ((2 ^ d : Nat) : Rat) * pw (last - d) := by
    rw [pw_split (show last - d ≤ last by omega), show (last - (last - (d : Int))).toNat = d by omega]
  have hpp := pw_pos (last - d)
  have hup : (2 : Rat) * ((k : Rat) * ((2 ^ d : Nat) : Rat)) ≤ 2 * (n : Rat) + ((2 ^ d : Nat) : Rat) := by
    have := Rat.natCast_le_natCast.2 herr.1
    rw [Rat.natCast_mul, Rat.natCast_add, Rat.natCast_mul, Rat.natCast_mul] at this
    exact this
  have hdn : (2 : Rat) * (n : Rat) ≤ 2 * ((k : Rat) * ((2 ^ d : Nat) : Rat)) + ((2 ^ d : Nat) : Rat) := by
    have := Rat.natCast_le_natCast.2 herr.2
    rw [Rat.natCast_mul, Rat.natCast_add, Rat.natCast_mul, Rat.natCast_mul] at this
    exact this
  have hup2 := Rat.mul_le_mul_of_nonneg_right hup (Rat.le_of_lt hpp)
  have hdn2 := Rat.mul_le_mul_of_nonneg_right hdn (Rat.le_of_lt hpp)
  refine ⟨last, k, hlast.1, ?_, ?_, ?_, ?_, ?_, ?_, hk53, hk52⟩
  · rw [val_word s (by omega), hmag]
    unfold dv
    rw [sgn_mul, Rat.intCast_mul, Rat.mul_assoc, hpl]
    rfl
  · unfold Fnt
    rw [word_mod s _ (by omega)]
    exact hr
  · rw [← hval, hunit]; grind
  · rw [← hval, hunit]; grind
  · rcases hnl with h | h
    · exact Or.inl h
    · right
      rw [← hval]
      have h1 : ((2 ^ (52 + d) : Nat) : Rat) ≤ (n : Rat) := Rat.natCast_le_natCast.2 h
      have h2 := Rat.mul_le_mul_of_nonneg_right h1 (Rat.le_of_lt hpp)
      have h3 : pw (last + 52) = ((2 ^ (52 + d) : Nat) : Rat) * pw (last - d) := by
        rw [← pw_nat, ← pw_add]; congr 1; omega
      rw [h3]; exact h2
  · intro hle
    have h0 : d = 0 := by omega
    have : k = n := by
      have h1 := herr.1
      have h2 := herr.2
      rw [h0] at h1 h2
      simp only [Nat.pow_zero, Nat.mul_one] at h1 h2
      omega
    rw [this, ← hval, h0]
    congr 2
    omega
end Go.Fl
/- The steps of float64 arithmetic, as rational numbers with a bound. No program is spoken of here. -/
namespace Go.Fl
open Ieee Go.RowKit
set_option maxRecDepth 200000
set_option maxHeartbeats 8000000

/-- Two numbers are near each other. -/
def Near (a b E : Rat) : Prop := a ≤ b + E ∧ b ≤ a + E
theorem dv_false (m : Nat) (e : Int) : dv false m e = (m : Rat) * pw e := rfl
theorem dv_true (m : Nat) (e : Int) : dv true m e = -((m : Rat) * pw e) := by
  show ((-(m : Int) : Int) : Rat) * pw e = _
  rw [Rat.intCast_neg, Rat.neg_mul]
  rfl
theorem pw_half (e : Int) : pw (e - 1) * 2 = pw e := by
  rw [show (2 : Rat) = pw 1 by decide +kernel, ← pw_add]; congr 1; omega
theorem Rounds.near {s : Bool} {m : Nat} {e : Int} {r : Nat} {last : Int} {kept : Nat} (h : Rounds s m e r last kept) : Near (val r) (dv s m e) (pw (-53) * ((m : Rat) * pw e) + pw (-1075)) ∧ (-1074 ≤ e → Near (val r) (dv s m e) (pw (-53) * ((m : Rat) * pw e))) := by
  have hv0 : 0 ≤ (m : Rat) * pw e := Rat.mul_nonneg Rat.natCast_nonneg (Rat.le_of_lt (pw_pos e))
  have hu : pw last ≤ 2 * (pw (-53) * ((m : Rat) * pw e)) ∨ last = -1074 := by
    rcases h.rel with h1 | h1
    · exact Or.inr h1
    · left
      have h2 := Rat.mul_le_mul_of_nonneg_left h1 (Rat.le_of_lt (pw_pos (-53)))
      have h3 : pw (-53) * pw (last + 52) = pw (last - 1) := by rw [← pw_add]; congr 1; omega
      have h4 := pw_half last
      grind
  have hup := h.up
  have hdn := h.down
  have hE : pw last ≤ 2 * (pw (-53) * ((m : Rat) * pw e) + pw (-1075)) := by
    have hp := pw_pos (-1075)
    have hp2 := Rat.mul_nonneg (Rat.le_of_lt (pw_pos (-53))) hv0
    rcases hu with h1 | h1
    · grind
    · rw [h1]
      have := pw_half (-1074)
      have e1 : (-1074 : Int) - 1 = -1075 := by omega
      rw [e1] at this
      grind
  have key : ∀ E : Rat, (kept : Rat) * pw last ≤ (m : Rat) * pw e + E → (m : Rat) * pw e ≤ (kept : Rat) * pw last + E → Near (val r) (dv s m e) E := by
    intro E h1 h2
    rw [h.value]
    unfold Near
    cases s
    · rw [dv_false, dv_false]; exact ⟨h1, h2⟩
    · rw [dv_true, dv_true]; constructor <;> grind
  refine ⟨key _ (by grind) (by grind), fun he => ?_⟩
  have hE2 := Rat.mul_nonneg (Rat.le_of_lt (pw_pos (-53))) hv0
  rcases hu with h1 | h1
  · exact key _ (by grind) (by grind)
  · have := h.exact (by omega)
    exact key _ (by grind) (by grind)
theorem pw_lt {a b : Int} (h : a < b) : pw a < pw b := by
  have h1 := pw_mono (show a + 1 ≤ b by omega)
  have h2 := pw_half (a + 1)
  rw [show a + 1 - 1 = a by omega] at h2
  have := pw_pos a
  grind
theorem log_le {m : Nat} {e N : Int} (hm : 0 < m) (h : (m : Rat) * pw e ≤ pw N) : e + m.log2 ≤ N := by
  rcases Int.lt_or_le N (e + m.log2) with h1 | h1
  · exfalso
    have h2 : ((2 ^ m.log2 : Nat) : Rat) ≤ (m : Rat) := Rat.natCast_le_natCast.2 (Nat.log2_self_le (by omega))
    have h3 := Rat.mul_le_mul_of_nonneg_right h2 (Rat.le_of_lt (pw_pos e))
    rw [← pw_nat, ← pw_add] at h3
    have h4 := pw_lt h1
    rw [show e + (m.log2 : Int) = (m.log2 : Int) + e by omega] at h4
    grind
  · exact h1
theorem val_zero (s : Bool) : val (double.word s 0) = 0 := by
  rw [val_word s (by omega), show mag 0 = 0 by decide +kernel]
  cases s <;> simp [dv, sgn]
/-- The float that is written for a number. -/
theorem write_near (s : Bool) (m : Nat) (e : Int) {B : Rat} (hB : (m : Rat) * pw e ≤ B) (hB2 : B ≤ pw 1000) :
    Fnt (double.write (.number s m e)) ∧ Near (val (double.write (.number s m e))) (dv s m e) (pw (-53) * B + pw (-1075)) ∧ (-1074 ≤ e → Near (val (double.write (.number s m e))) (dv s m e) (pw (-53) * B)) := by
  have hp := pw_pos (-53)
  have hp2 := pw_pos (-1075)
  have hv0 : 0 ≤ (m : Rat) * pw e := Rat.mul_nonneg Rat.natCast_nonneg (Rat.le_of_lt (pw_pos e))
  have hBm := Rat.mul_le_mul_of_nonneg_left hB (Rat.le_of_lt hp)
  have hB0 := Rat.mul_nonneg (Rat.le_of_lt hp) hv0
  show Fnt (double.nearest s m e) ∧ Near (val (double.nearest s m e)) _ _ ∧ (_ → Near (val (double.nearest s m e)) _ _)
  rcases Nat.eq_zero_or_pos m with h0 | h0
  · subst h0
    have e1 : double.nearest s 0 e = double.word s 0 := by simp [Format.nearest]
    have e2 : dv s 0 e = 0 := by cases s <;> simp [dv, sgn]
    rw [e1, val_zero, e2]
    refine ⟨?_, ?_, fun _ => ?_⟩
    · unfold Fnt; rw [word_mod s 0 (by omega)]; omega
    · unfold Near; constructor <;> grind
    · unfold Near; constructor <;> grind
  · have hlog : e + m.log2 ≤ 1000 := log_le h0 (Rat.le_trans hB hB2)
    obtain ⟨last, kept, hr⟩ := rounds s (e := e) h0 (by omega)
    obtain ⟨n1, n2⟩ := hr.near
    refine ⟨hr.fin, ?_, fun he => ?_⟩
    · unfold Near at *; constructor <;> grind
    · have := n2 he
      unfold Near at *; constructor <;> grind
/-- Order is the numbers' order. -/
theorem ord_val {x y : Nat} (hx : Fnt x) (hy : Fnt y) : ord (ab x) (ab y) = some (if val x < val y then .lt else if val x = val y then .eq else .gt) := by
  rw [← order_ab]
  show double.order x y = _
  rw [order_lin hx.num hy.num]
  unfold lin
  rw [← sgn_mono]
  unfold val
  have hp := pw_pos (-1074)
  generalize sgn (x / 2 ^ 63 % 2 == 1) (mag (x % 2 ^ 63)) = a
  generalize sgn (y / 2 ^ 63 % 2 == 1) (mag (y % 2 ^ 63)) = b
  congr 1
  rw [Int.compare_eq_ite_lt]
  have hlt : ((a : Rat) * pw (-1074) < (b : Rat) * pw (-1074)) ↔ a < b := by
    constructor
    · intro h
      rcases Int.lt_or_le a b with h1 | h1
      · exact h1
      · exfalso
        have := Rat.mul_le_mul_of_nonneg_right (Rat.intCast_le_intCast.2 h1) (Rat.le_of_lt hp)
        grind
    · intro h
      have := Rat.mul_lt_mul_of_pos_right (Rat.intCast_lt_intCast.2 h) hp
      exact this
  have heq : ((a : Rat) * pw (-1074) = (b : Rat) * pw (-1074)) ↔ a = b := by
    constructor
    · intro h
      rcases Int.lt_trichotomy a b with h1 | h1 | h1
      · have := hlt.2 h1; grind
      · exact h1
      · have := Rat.mul_lt_mul_of_pos_right (Rat.intCast_lt_intCast.2 h1) hp
        grind
    · intro h; rw [h]
  simp only [hlt, heq]
  split
  · rfl
  · split
    · split
      · omega
      · rfl
    · split
      · rfl
      · omega
end Go.Fl

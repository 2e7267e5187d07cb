/- Dwell: Cells, where no differences are taken: the walk. -/
import Derived.Test.YtflngnnoibkkoaaGreatEg
import Derived.Test.YtflngnnoibkkoaaGreatBg
import Derived.Test.YtflngnnoibkkoaaGreatFt
namespace Go.Proofs.YtflngnnoibkkoaaGreat
open Go.ChangeShapes Go.WideShapes Go.ChangeAt Go.RowKit Go.Fl Ieee
set_option maxRecDepth 200000
set_option maxHeartbeats 8000000
attribute [local go_sem] run_store_float run_store_complex run_store_fn call34 call33 run_neg fold_eq fold_ne fold_lt fold_gt abs_eq

/-- The pulse of a code, as it was told. -/
def PulseOf (cd : Int) (fp : Nat → Nat × Nat) : Prop := ∃ d : List (Nat × Nat), d.map ab2 = codeL cd ∧ ∀ i, fp i = d[i]!
/-- What Cells leaves. -/
def CellsR (w : World) (n m : Nat) (cd win : Int) (f : Nat → Nat → Nat × Nat) (e : Ending) (w' : World) : Prop := ∃ (wb : Nat) (v : Value) (f3 : Nat → Nat → Nat × Nat) (D : Nat → Array Nat) (fp : Nat → Nat × Nat), e = .returned (.tuple #[v, .int .i64 0]) ∧ Hid (CM w' v n m wb D) ∧ Hid (PulseOf cd fp) ∧ Hid (Piped n m (codeL cd).length win f fp f3) ∧ Hid (∀ i, i < n → ∀ g, g < m → ab (D i)[g]! = pow2F (f3 i g)) ∧ Hid (Up w w')
theorem frozen_row {w : World} {g k : Nat} {c : Array Value} {t : TypeId} (h : w.heap[g]? = some (.cells c t (0, 0))) : w.frozen? ⟨g, k, none⟩ = false := by
  simp [World.frozen?, h]
theorem heap_last (w : World) (o : Obj) : (w.alloc o).heap[w.heap.size]? = some o := by
  show (w.heap.push o)[w.heap.size]? = some o
  simp
theorem ws_new (w : World) (v : Value) : WS (w.alloc (.cells #[v, .slice none 0 0, .slice none 0 0, .slice none 0 0] 72)) w.heap.size v (.slice none 0 0) (.slice none 0 0) (.slice none 0 0) :=
  ⟨new_cell _ _ _ _ _ rfl, new_cell _ _ _ _ _ rfl, new_cell _ _ _ _ _ rfl, new_cell _ _ _ _ _ rfl, fun _ => frozen_row (heap_last w _)⟩
/-- Bounds of a setup that may be. -/
theorem st_bounds {c v r : Nat} {E R cd can way gu tr nth : Int} {ti no : Nat} {n m : Nat} (hz : stE c v r E R cd can way gu tr nth ti no = 0) (hn : (n : Int) = R) (hm : (m : Int) = E) : 1 ≤ n ∧ n ≤ 256 ∧ 1 ≤ m ∧ m ≤ 16384 ∧ 1 ≤ (codeL cd).length ∧ (codeL cd).length ≤ 160 ∧ n * m ≤ 262144 ∧ n * m * (codeL cd).length ≤ 16777216 ∧ n * m * n ≤ 16777216 := by
  obtain ⟨z0, z1, -, -, -, -, -, -, -, z9⟩ := st_zero hz
  obtain ⟨e1, e2, r1, r2, e5⟩ := check_bounds z0
  subst hn hm
  unfold manyB at z9
  simp only [Bool.or_eq_false_iff, decide_eq_false_iff_not] at z9
  obtain ⟨y1, y2⟩ := z9
  refine ⟨by omega, by omega, by omega, by omega, code_some cd z1, code_few cd, ?_, ?_, ?_⟩
  · have : ((n * m : Nat) : Int) = (m : Int) * (n : Int) := by rw [Int.natCast_mul, Int.mul_comm]
    omega
  · have : ((n * m * (codeL cd).length : Nat) : Int) = (n : Int) * (m : Int) * ((codeL cd).length : Int) := by rw [Int.natCast_mul, Int.natCast_mul]
    omega
  · have : ((n * m * n : Nat) : Int) = (n : Int) * (m : Int) * (n : Int) := by rw [Int.natCast_mul, Int.natCast_mul]
    omega
/-- All that the steps lean on, made. -/
theorem tcw_of {c v r : Nat} {E R cd win can way gu tr nth : Int} {ti no : Nat} {V W w2 : World} {wb sg b2 b3 A n m cc cp pg : Nat} {P : Nat → Option Addr} {C G O : Nat → Nat} {f : Nat → Nat → Nat × Nat} {d : List (Nat × Nat)} {b : Nat} (hz : stE c v r E R cd can way gu tr nth ti no = 0) (hcan : can = 0) (hn : (n : Int) = R) (hm : (m : Int) = E) (hT : TI V A n m P C G O f) (hc : n ≤ cc) (hV : CRow b W (.slice (some ⟨pg, 0, none⟩) (codeL cd).length cp) d) (huV : Up V W) (hwb : wb = W.heap.size) (hu2 : Up W w2) (hlt : wb < w2.heap.size)
    (hsg : wb < sg ∧ wb < b2 ∧ wb < b3) (hf : w2.cell? ⟨sg, 0, none⟩ = some (.func (.func 59) #[] #[.pointer (some ⟨b3, 0, none⟩)]) ∧ w2.cell? ⟨sg, 1, none⟩ = some (.func (.func 61) #[] #[.pointer (some ⟨b2, 0, none⟩)]) ∧ w2.cell? ⟨sg, 2, none⟩ = some (.func (.func 63) #[] #[.pointer (some ⟨b2, 0, none⟩)]) ∧ w2.cell? ⟨sg, 3, none⟩ = some (.func (.func 66) #[] #[])) (hS : SB w2 b2 c v r E R cd win can way gu tr nth ti no) (hb3 : w2.cell? ⟨b3, 0, none⟩ = some (.slice (some ⟨pg, 0, none⟩) (codeL cd).length cp)) :
    TcW w2 wb sg b2 b3 A cc n m (codeL cd).length pg cp win f (fun i => d[i]!) := by
  have hB := st_bounds hz hn hm
  have hpg := (World.ownsRow.lt hV pg rfl).2
  obtain ⟨f0, f1, f2, f3⟩ := hf
  have hl : d.length = (codeL cd).length := hV.len
  refine ⟨f0, f1, f2, f3, by rw [← hcan]; exact hS.s7, hS.s6, hb3, fun j hj => ?_, ⟨A, cc, P, C, G, O, rfl, hc, hT.up (huV.trans hu2), ?_, fun i hi h0 => ?_⟩, ⟨by omega, by omega, by omega, by omega⟩, hlt, hB⟩
  · rw [Nat.zero_add]
    exact cell_up (hV.cell (by omega)) hu2
  · have := World.block_lt_of_cell? V _ (hT.tb 0 (by omega))
    have := huV.size
    have : A < V.heap.size := by assumption
    omega
  · have := World.block_lt_of_cell? V _ ((hT.rd i hi h0).2 0 h0)
    have h2 : G i < V.heap.size := this
    have := huV.size
    omega
theorem tcw_mk {c v r : Nat} {E R cd win can way gu tr nth : Int} {ti no : Nat} {w w1 W w2 : World} {wb sg b2 b3 A n m cc cp pg nL : Nat} {P : Nat → Option Addr} {C G O : Nat → Nat} {f : Nat → Nat → Nat × Nat} {d : List (Nat × Nat)} {b : Nat} (HZ : Hid (stE c v r E R cd can way gu tr nth ti no = 0 ∧ can = 0 ∧ (n : Int) = R ∧ (m : Int) = E ∧ n ≤ cc)) (HNL : Hid ((codeL cd).length = nL)) (HT : Hid (TI w A n m P C G O f)) (HV : Hid (CRow b w1 (.slice (some ⟨pg, 0, none⟩) nL cp) d)) (HU1 : Hid (Up w w1)) (HWB : Hid (w1.heap.size = wb)) (HUX : Hid (Up w1 W)) (hws : wb < W.heap.size)
    (HF : Hid (w2.cell? ⟨sg, 0, none⟩ = some (.func (.func 59) #[] #[.pointer (some ⟨b3, 0, none⟩)]) ∧ w2.cell? ⟨sg, 1, none⟩ = some (.func (.func 61) #[] #[.pointer (some ⟨b2, 0, none⟩)]) ∧ w2.cell? ⟨sg, 2, none⟩ = some (.func (.func 63) #[] #[.pointer (some ⟨b2, 0, none⟩)]) ∧ w2.cell? ⟨sg, 3, none⟩ = some (.func (.func 66) #[] #[]))) (HS2 : Hid (SB w2 b2 c v r E R cd win can way gu tr nth ti no)) (HB3 : Hid (w2.cell? ⟨b3, 0, none⟩ = some (.slice (some ⟨pg, 0, none⟩) nL cp))) (HU2 : Hid (Up W w2)) (HLE : Hid (W.heap.size ≤ sg ∧ W.heap.size ≤ b2 ∧ W.heap.size ≤ b3)) :
    Hid (TcW w2 wb sg b2 b3 A cc n m (codeL cd).length pg cp win f (fun i => d[i]!)) := by
  obtain ⟨q1, q2, q3, q4, q5⟩ := HZ.out
  obtain ⟨l1, l2, l3⟩ := HLE.out
  have l4 := HU2.out.size
  have hV := HV.out
  have hb3 := HB3.out
  rw [← HNL.out] at hV hb3
  exact tcw_of q1 q2 q3 q4 HT.out q5 hV HU1.out HWB.out.symm (HUX.out.trans HU2.out) (by omega) ⟨by omega, by omega, by omega⟩ HF.out HS2.out hb3
set_option maxHeartbeats 16000000 in
theorem t13 {c v r : Nat} {E R cd win can way gu tr nth : Int} {ti no : Nat} {w : World} {A n m cc : Nat} {P : Nat → Option Addr} {C G O : Nat → Nat} {f : Nat → Nat → Nat × Nat} (hz : stE c v r E R cd can way gu tr nth ti no = 0) (hcan : can = 0) (hn : (n : Int) = R) (hm : (m : Int) = E) (hT : TI w A n m P C G O f) (hc : n ≤ cc) :
    Calls Tryz.prog 13 #[.agg #[.float .f64 c, .float .f64 v, .float .f64 r, .int .i64 E, .int .i64 R, .int .i64 cd, .int .i8 win, .int .i64 can, .int .i8 way, .int .i64 gu, .int .i64 tr, .int .i64 nth, .float .f64 ti, .float .f64 no], .slice (some ⟨A, 0, none⟩) n cc] w (CellsR w n m cd win f) := by
  have C30 : Hid (∀ V, Up w V → Calls Tryz.prog 30 #[.agg #[.float .f64 c, .float .f64 v, .float .f64 r, .int .i64 E, .int .i64 R, .int .i64 cd, .int .i8 win, .int .i64 can, .int .i8 way, .int .i64 gu, .int .i64 tr, .int .i64 nth, .float .f64 ti, .float .f64 no], .slice (some ⟨A, 0, none⟩) n cc] V (TkR V cd)) := fun V hV => t30 hz hn hm (hT.tb.up hV)
  have HT : Hid (TI w A n m P C G O f) := hT
  have HZ : Hid (stE c v r E R cd can way gu tr nth ti no = 0 ∧ can = 0 ∧ (n : Int) = R ∧ (m : Int) = E ∧ n ≤ cc) := ⟨hz, hcan, hn, hm, hc⟩
  have HS0 : Hid (SB (w.alloc (.cells #[.float .f64 c, .float .f64 v, .float .f64 r, .int .i64 E, .int .i64 R, .int .i64 cd, .int .i8 win, .int .i64 can, .int .i8 way, .int .i64 gu, .int .i64 tr, .int .i64 nth, .float .f64 ti, .float .f64 no] 27)) w.heap.size c v r E R cd win can way gu tr nth ti no) := SB.new w c v r E R cd win can way gu tr nth ti no
  have HS00 := HS0.out
  obtain ⟨s0, s1, s2, s3, s4, s5, s6, s7, s8, s9, s10, s11, s12, s13⟩ := HS00
  have hnL := (st_bounds hz hn hm).2.2.2.2.1
  clear hz hcan hn hm hT hc
  obtain ⟨nL, hnl⟩ : ∃ nL, (codeL cd).length = nL := ⟨_, rfl⟩
  have HNL : Hid ((codeL cd).length = nL) := hnl
  unfold TkR at C30
  rw [hnl] at C30 hnL
  clear hnl
  go_enter Tryz.func13, Tryz.ntmps13
  go_upto_region 5 with (go_at_call 30; (with_reducible refine (C30.out _ (Up.alloc _ _)).mono ?_); rintro e w1 ⟨p, cp, d, rfl, HV, HU1, HD⟩; clear s0 s1 s2 s3 s4 s5 s6 s7 s8 s9 s10 s11 s12 s13; (have HW1 := ws_new w1 (.slice (some ⟨A, 0, none⟩) n cc)); (have HSW : Hid (WS (w1.alloc (.cells #[.slice (some ⟨A, 0, none⟩) n cc, .slice none 0 0, .slice none 0 0, .slice none 0 0] 72)) w1.heap.size (.slice (some ⟨A, 0, none⟩) n cc) (.slice none 0 0) (.slice none 0 0) (.slice none 0 0)) := HW1); clear HW1)
  have HSX : Hid (SB (w1.alloc (.cells #[.slice (some ⟨A, 0, none⟩) n cc, .slice none 0 0, .slice none 0 0, .slice none 0 0] 72)) w.heap.size c v r E R cd win can way gu tr nth ti no) := HS0.out.up (HU1.out.trans (Up.alloc _ _))
  have HUA : Hid (Up w w1) := (Up.alloc _ _).trans HU1.out
  have HUX : Hid (Up w1 (w1.alloc (.cells #[.slice (some ⟨A, 0, none⟩) n cc, .slice none 0 0, .slice none 0 0, .slice none 0 0] 72))) := Up.alloc _ _
  obtain ⟨p0, c0, hp0, hp1⟩ := own_form HV.out
  obtain ⟨pg, rfl⟩ : ∃ g, p = some ⟨g, 0, none⟩ := by
    have hl : d.length = nL := by rw [← HNL.out, ← HD.out, List.length_map]
    obtain ⟨g, hg⟩ := hp1 (by omega)
    simp only [Value.slice.injEq] at hp0
    exact ⟨g, hp0.1.trans hg⟩
  clear hp0 hp1
  have hws : w1.heap.size < (w1.alloc (.cells #[.slice (some ⟨A, 0, none⟩) n cc, .slice none 0 0, .slice none 0 0, .slice none 0 0] 72)).heap.size := by simp
  generalize w1.alloc (.cells #[.slice (some ⟨A, 0, none⟩) n cc, .slice none 0 0, .slice none 0 0, .slice none 0 0] 72) = W at *
  obtain ⟨wb, hwb⟩ : ∃ wb, w1.heap.size = wb := ⟨_, rfl⟩
  have HWB : Hid (w1.heap.size = wb) := hwb
  rw [hwb] at HSW hws
  rw [hwb]
  clear hwb
  have HSXo := HSX.out
  obtain ⟨s0, s1, s2, s3, s4, s5, s6, s7, s8, s9, s10, s11, s12, s13⟩ := HSXo
  go_wp2_with (first
    | (go_at_call 32; (with_reducible refine (t32 c v r E R cd win can way gu tr nth ti no _ _ _ W).mono ?_); rintro e w2 ⟨sg, b2, b3, rfl, HF, HS2, HB3, HU2, HLE⟩; clear s0 s1 s2 s3 s4 s5 s6 s7 s8 s9 s10 s11 s12 s13; (have HTW := tcw_mk HZ HNL HT HV HUA HWB HUX hws HF HS2 HB3 HU2 HLE))
    | (go_at_call 31; (with_reducible refine (TcW.run HTW.out (HSW.out.up HU2.out)).mono ?_); rintro e w3 ⟨rfl, HIC⟩; (obtain ⟨hb3, v0, vc, f3, D, r1, r2, r3, r4⟩ := HIC.out); (have y1 := r1.c1); (have HR : Hid (CM w3 vc n m wb D ∧ Piped n m (codeL cd).length win f (fun i => d[i]!) f3 ∧ (∀ i, i < n → ∀ g, g < m → ab (D i)[g]! = pow2F (f3 i g)) ∧ But wb w2 w3) := ⟨r2, r3, r4, hb3⟩); clear r1 r2 r3 r4 hb3))
  go_ret2
  obtain ⟨r2, r3, r4, r5⟩ := HR.out
  have hu : Up w w3 := by
    have a : Up w w1 := (Up.alloc _ _).trans HU1.out
    refine r5.up ((a.trans HUX.out).trans HU2.out) ?_
    rw [← HWB.out]
    exact a.size
  exact ⟨wb, vc, f3, D, _, rfl, r2, ⟨d, HD.out, fun _ => rfl⟩, r3, r4, hu⟩
end Go.Proofs.YtflngnnoibkkoaaGreat
/- Scene: where a target is; what is refused. -/
namespace Go.Proofs.YtflngnnoibkkoaaGreat
open Go.ChangeShapes Go.WideShapes Go.ChangeAt Go.RowKit Go.Fl Ieee
set_option maxRecDepth 200000
set_option maxHeartbeats 8000000
attribute [local go_sem] run_store_float run_store_c isSome_set call34 call33 run_neg fold_eq fold_ne fold_lt fold_gt abs_eq

/-- Where a target is at a time. -/
def atF (r s x : Option Nat) : Option Nat := bin .add r (bin .mul s x)
theorem t90 (r s a t b x : Nat) (w : World) : Calls Tryz.prog 90 #[.agg #[.float .f64 r, .float .f64 s, .float .f64 a, .float .f64 t, .float .f64 b], .float .f64 x] w (FU w (atF (ab r) (ab s) (ab x))) := by
  go_enter Tryz.func90, Tryz.ntmps90
  go_wp2_with (first | ((with_reducible refine upon_fl (by simp) ?_); intro r1 n1 h1) | ((with_reducible refine upon_fl (by simp) ?_); intro r2 n2 h2))
  go_ret
  refine ⟨_, rfl, ?_, (Up.alloc _ _).trans (Up.drewN _ _)⟩
  simp_all [Hid, atF]
/-- What a call leaves that answers yes or no and may make memory. -/
def BU (b : Bool) (w : World) (e : Ending) (w' : World) : Prop := e = .returned (.bool b) ∧ Hid (Up w w')
theorem fd_new (w : World) (t : TypeId) (d : List Nat) {cs : Array Value} {n : Nat} (hn : d.length = n) (h : cs = (d.map (Value.float .f64)).toArray) : FD (w.alloc (.cells cs t)) w.heap.size 0 n (fun i => d[i]!) := by
  subst h
  subst hn
  intro j hj
  rw [cell_of_row _ _ _ _ _ _ (heap_alloc_last _ _)]
  simp [getElem!_pos d j hj, List.getElem?_eq_getElem hj]
set_option maxHeartbeats 1000000 in
theorem t87 (g n c k : Nat) (f : Nat → Nat) (b : Bool) (w : World) (h : FD w g 0 n f) (hn : n ≤ 1000000) (hk : ∀ i, i < k → fin (ab (f i)) = true) (hb : k < n ∧ fin (ab (f k)) = false ∧ b = false ∨ k = n ∧ b = true) :
    Calls Tryz.prog 87 #[.slice (some ⟨g, 0, none⟩) n c] w (BR b w) := by
  have H : Hid (FD w g 0 n f) := h
  have HB : Hid (k < n ∧ fin (ab (f k)) = false ∧ b = false ∨ k = n ∧ b = true) := hb
  have HK : Hid (∀ i, i < k → fin (ab (f i)) = true) := hk
  have hkn : k ≤ n := by omega
  clear h hb hk
  go_enter Tryz.func87, Tryz.ntmps87
  go_wp2
  go_loopw [7] (fun vi wr => ∃ i : Nat, i ≤ k ∧ vi = .int .i64 i ∧ wr = w) (fun vi _ => n - (intOf vi).toNat)
  case atStart => exact ⟨0, by omega, rfl, rfl⟩
  case round =>
    obtain ⟨i, hi, rfl, rfl⟩ := hrel
    by_cases hlt : i < n
    · have z1 : (i : Int) < (n : Int) := by omega
      have z2 : (0 : Int) ≤ (i : Int) := by omega
      have hc := H.out i hlt
      rw [Nat.zero_add] at hc
      by_cases hik : i < k
      · have q := HK.out i hik
        generalize f i = x at hc q
        have q1 : eqF (ab x) (ab x) = true := by unfold fin at q; rw [Bool.and_eq_true] at q; exact q.1
        have q2 : gtF ((ab x).map abs) (ab 9218868437227405311) = false := by unfold fin at q; rw [Bool.and_eq_true, Bool.not_eq_true'] at q; exact q.2
        clear q
        go_wp2_with (first
          | (go_at_call 51; refine (t51 _ _).mono ?_; rintro e w' ⟨rfl, hw⟩; subst w')
          | (go_at_call 52; refine (t52 _ _).mono ?_; rintro e w' ⟨rfl, hw⟩; subst w'))
        go_roundw
        case rel => exact ⟨i + 1, by omega, by go_num, by trivial⟩
        case measure => simp [intOf]; omega
      · obtain rfl : i = k := by omega
        have hne : fin (ab (f i)) = false ∧ b = false := by
          rcases HB.out with ⟨_, q, r⟩ | ⟨q, r⟩
          · exact ⟨q, r⟩
          · omega
        obtain ⟨q, rfl⟩ := hne
        generalize f i = x at hc q
        clear HB HK
        unfold fin at q
        cases q1 : eqF (ab x) (ab x)
        · clear q
          go_wp2_with (first
            | (go_at_call 51; refine (t51 _ _).mono ?_; rintro e w' ⟨rfl, hw⟩; subst w')
            | (go_at_call 52; refine (t52 _ _).mono ?_; rintro e w' ⟨rfl, hw⟩; subst w'))
          all_goals (go_ret; exact ⟨rfl, rfl⟩)
        · rw [q1, Bool.true_and, Bool.not_eq_false'] at q
          go_wp2_with (first
            | (go_at_call 51; refine (t51 _ _).mono ?_; rintro e w' ⟨rfl, hw⟩; subst w')
            | (go_at_call 52; refine (t52 _ _).mono ?_; rintro e w' ⟨rfl, hw⟩; subst w'))
          all_goals (go_ret; exact ⟨rfl, rfl⟩)
    · obtain rfl : i = n := by omega
      have hb : b = true := by
        rcases HB.out with ⟨q, _⟩ | ⟨_, r⟩
        · omega
        · exact r
      subst hb
      go_wp2
      go_ret
      exact ⟨rfl, rfl⟩
/-- Of floats that are written out. -/
theorem fin_list (w : World) (d : List Nat) {cs : Array Value} {n : Nat} (hn : d.length = n) (hl : n ≤ 1000) (h : cs = (d.map (Value.float .f64)).toArray) {b : Bool} (hb : d.all (fun x => fin (ab x)) = b) :
    Calls Tryz.prog 87 #[.slice (some ⟨w.heap.size, 0, none⟩) n n] (w.alloc (.cells cs 22)) (BR b (w.alloc (.cells cs 22))) := by
  have hf := fd_new w 22 d hn h
  have key : ∀ m, m ≤ n → (∀ i, i < m → fin (ab d[i]!) = true) ∨ ∃ k, k < m ∧ fin (ab d[k]!) = false ∧ ∀ i, i < k → fin (ab d[i]!) = true := by
    intro m
    induction m with
    | zero => intro _; exact Or.inl fun i hi => by omega
    | succ m ih =>
      intro hm
      rcases ih (by omega) with h1 | ⟨k, h1, h2, h3⟩
      · cases q : fin (ab d[m]!)
        · exact Or.inr ⟨m, by omega, q, h1⟩
        · refine Or.inl fun i hi => ?_
          by_cases e : i = m
          · subst e; exact q
          · exact h1 i (by omega)
      · exact Or.inr ⟨k, by omega, h2, h3⟩
  rcases key n (Nat.le_refl _) with h1 | ⟨k, h1, h2, h3⟩
  · refine t87 _ n n n _ b _ hf (by omega) (fun i hi => h1 i hi) (Or.inr ⟨rfl, ?_⟩)
    rw [← hb, List.all_eq_true]
    intro x hx
    obtain ⟨i, hi, rfl⟩ := List.mem_iff_getElem.1 hx
    have := h1 i (by omega)
    rw [getElem!_pos d i hi] at this
    exact this
  · refine t87 _ n n k _ b _ hf (by omega) (fun i hi => h3 i hi) (Or.inl ⟨h1, h2, ?_⟩)
    rw [← hb, List.all_eq_false]
    refine ⟨d[k]!, by rw [getElem!_pos d k (by omega)]; exact List.getElem_mem _, fun e => by rw [h2] at e; cases e⟩
theorem fin1 (w : World) (x : Nat) {g : Nat} (hg : g = w.heap.size) : Calls Tryz.prog 87 #[.slice (some ⟨g, 0, none⟩) 1 1] (w.alloc (.cells #[.float .f64 x] 22)) (BR (fin (ab x)) (w.alloc (.cells #[.float .f64 x] 22))) := by
  subst hg; exact fin_list w [x] rfl (by simp) rfl (by simp)
theorem fin2 (w : World) (x y : Nat) {g : Nat} (hg : g = w.heap.size) : Calls Tryz.prog 87 #[.slice (some ⟨g, 0, none⟩) 2 2] (w.alloc (.cells #[.float .f64 x, .float .f64 y] 22)) (BR (fin (ab x) && fin (ab y)) (w.alloc (.cells #[.float .f64 x, .float .f64 y] 22))) := by
  subst hg; exact fin_list w [x, y] rfl (by simp) rfl (by simp)
/-- The four numbers of a target. -/
def fin4F (r s a t : Nat) : Bool := fin (ab r) && (fin (ab s) && (fin (ab a) && fin (ab t)))
theorem fin4 (w : World) (r s a t : Nat) {g : Nat} (hg : g = w.heap.size) : Calls Tryz.prog 87 #[.slice (some ⟨g, 0, none⟩) 4 4] (w.alloc (.cells #[.float .f64 r, .float .f64 s, .float .f64 a, .float .f64 t] 22)) (BR (fin4F r s a t) (w.alloc (.cells #[.float .f64 r, .float .f64 s, .float .f64 a, .float .f64 t] 22))) := by
  subst hg; exact fin_list w [r, s, a, t] rfl (by simp) rfl (by simp [fin4F])
/-- tooMuch -/
def muchF (T R n : Nat) : Bool := decide (256 < T) || decide (16384 < n) || decide (16777216 < T * R * n)
theorem t86 (T R n : Nat) (w : World) (hT : T < 4611686018427387904) (hn : n < 4611686018427387904) (hR : R ≤ 256) : Calls Tryz.prog 86 #[.int .i64 T, .int .i64 R, .int .i64 n] w (BR (muchF T R n) w) := by
  by_cases h1 : 256 < T
  · have z : (256 : Int) < (T : Int) := by omega
    have e : muchF T R n = true := by simp [muchF, h1]
    rw [e]
    go_enter Tryz.func86, Tryz.ntmps86
    go_wp2
    go_ret
    exact ⟨rfl, rfl⟩
  · have z : ¬ (256 : Int) < (T : Int) := by omega
    by_cases h2 : 16384 < n
    · have z2 : (16384 : Int) < (n : Int) := by omega
      have e : muchF T R n = true := by simp [muchF, h2]
      rw [e]
      go_enter Tryz.func86, Tryz.ntmps86
      go_wp2
      go_ret
      exact ⟨rfl, rfl⟩
    · have z2 : ¬ (16384 : Int) < (n : Int) := by omega
      have m1 : T * R ≤ 256 * 256 := Nat.mul_le_mul (by omega) hR
      obtain ⟨k, hk⟩ : ∃ k, T * R = k := ⟨_, rfl⟩
      have m2 : k * n ≤ 65536 * 16384 := Nat.mul_le_mul (by omega) (by omega)
      obtain ⟨m, hm⟩ : ∃ m, k * n = m := ⟨_, rfl⟩
      have k1 : (T : Int) * (R : Int) = k := by rw [← hk, Int.natCast_mul]
      have k2 : (k : Int) * (n : Int) = m := by rw [← hm, Int.natCast_mul]
      have e : muchF T R n = decide ((16777216 : Int) < (m : Int)) := by
        unfold muchF
        rw [hk, hm, decide_eq_false h1, decide_eq_false h2, Bool.false_or, Bool.false_or, decide_eq_decide]
        omega
      rw [e]
      rw [hm] at m2
      rw [hk] at m1
      clear hk hm e
      go_enter Tryz.func86, Tryz.ntmps86
      go_wp2
      go_ret
      exact ⟨rfl, rfl⟩
end Go.Proofs.YtflngnnoibkkoaaGreat

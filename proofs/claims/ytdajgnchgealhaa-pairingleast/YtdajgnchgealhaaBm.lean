/- Most. -/
import Derived.Test.YtdajgnchgealhaaMg
import Derived.Test.YtdajgnchgealhaaBk
import Derived.Test.YtdajgnchgealhaaBl
namespace Go.Proofs.Ytdajgnchgealhaa
open Go.ChangeShapes Go.WideShapes Go.ChangeAt Go.RowKit
attribute [local go_sem] isSome_set

theorem results_tmp4 {fn : Func} {t u v z : Tmp} (h : fn.results = #[.tmp t, .tmp u, .tmp v, .tmp z]) (tmps : Array Value) (P : Program) (w : World) :
    (results fn tmps).run P w = .ok (.tuple #[tmps.getD t undef, tmps.getD u undef, tmps.getD v undef, tmps.getD z undef]) w := by
  simp [results, h]
theorem Chk.good {N : Nat} {R : Nat → Nat} {T : Nat → Nat → Int} {z : Int} (h : Chk N R T z) (hg : Good N R T) : z = 0 := by
  rcases h with ⟨_, h⟩ | ⟨_, _, _, i, h1, h2⟩ | ⟨_, _, _, i, j, h1, h2, h3⟩ | ⟨h, _⟩
  · rcases h with h | ⟨i, h1, h2⟩
    · have := hg.n; omega
    · have := (hg.r i h1).1; omega
  · exact absurd (hg.r i h1).2 h2
  · have := hg.t i j h1 h2; omega
  · exact h
/-- A row of numbers of one's own. -/
structure Row (w w' : World) (g N : Nat) (f : Nat → Int) : Prop where
  lo : w.heap.size ≤ g
  c : ∀ i, i < N → w'.cell? ⟨g, i, none⟩ = some (.int .i64 (f i))
  fz : ∀ k, w'.frozen? ⟨g, k, none⟩ = false
  up : Up w w'
theorem Inv.two {n : Nat} {s : Sq} (h : Inv n n s) : Two n 0 s := ⟨h.per, h.ti, h.fe, h.sm, fun τ _ i hi => by omega⟩
/-- A store elsewhere. -/
theorem SQ.far {w : World} {L : Lay} {n : Nat} {s : Sq} (h : SQ w L n s) {g k : Nat} {v : Value} (h1 : L.bs ≠ g ∧ L.bt ≠ g ∧ L.bc ≠ g ∧ L.bp ≠ g) (h2 : ∀ i, i < n → L.br i ≠ g) : SQ (w.setCell ⟨g, k, none⟩ v) L n s :=
  ⟨cell_other h.s0 (Or.inl h1.1), cell_other h.s1 (Or.inl h1.1), cell_other h.s2 (Or.inl h1.1), cell_other h.s3 (Or.inl h1.1), cell_other h.s4 (Or.inl h1.1), cell_other h.s5 (Or.inl h1.1), cell_other h.s6 (Or.inl h1.1), cell_other h.s7 (Or.inl h1.1), cell_other h.s8 (Or.inl h1.1), fun i hi => cell_other (h.ct i hi) (Or.inl h1.2.1), fun i j hi hj => cell_other (h.cc i j hi hj) (Or.inl (h2 i hi)), fun i hi => cell_other (h.cu i hi) (Or.inl h1.2.2.1), fun i hi => cell_other (h.cv i hi) (Or.inl h1.2.2.1), fun i hi => cell_other (h.cq i hi) (Or.inl h1.2.2.1), fun i hi => cell_other (h.cm i hi) (Or.inl h1.2.2.2), fun i hi => cell_other (h.co i hi) (Or.inl h1.2.2.2), fun i hi => cell_other (h.cd i hi) (Or.inl h1.2.2.2), fun i hi => cell_other (h.cf i hi) (Or.inl h1.2.2.2), fun i hi => cell_other (h.cr i hi) (Or.inl h1.2.2.2), fun k => by rw [World.frozen?_setCell]; exact h.fc k, fun k => by rw [World.frozen?_setCell]; exact h.fp k⟩
/-- A square's blocks are there. -/
theorem SQ.lt {w : World} {L : Lay} {n : Nat} {s : Sq} (h : SQ w L n s) (hn : 0 < n) : (L.bs < w.heap.size ∧ L.bt < w.heap.size ∧ L.bc < w.heap.size ∧ L.bp < w.heap.size) ∧ ∀ i, i < n → L.br i < w.heap.size :=
  ⟨⟨World.block_lt_of_cell? w _ h.s0, World.block_lt_of_cell? w _ (h.ct 0 hn), World.block_lt_of_cell? w _ (h.cu 0 hn), World.block_lt_of_cell? w _ (h.cm 0 hn)⟩, fun i hi => World.block_lt_of_cell? w _ (h.cc i 0 hi hn)⟩
/-- The row of mates, while it is filled. -/
structure Fill (w wx : World) (L : Lay) (n N g k : Nat) (s : Sq) : Prop where
  lo : w.heap.size ≤ g
  sq : 0 < n → SQ wx L n s ∧ (L.bs ≠ g ∧ L.bt ≠ g ∧ L.bc ≠ g ∧ L.bp ≠ g) ∧ ∀ i, i < n → L.br i ≠ g
  any : ∀ i, i < N → (wx.cell? ⟨g, i, none⟩).isSome = true
  c : ∀ i, i < k → wx.cell? ⟨g, i, none⟩ = some (.int .i64 (told s i))
  fz : ∀ k, wx.frozen? ⟨g, k, none⟩ = false
  up : Up w wx
theorem Fill.put {w wx : World} {L : Lay} {n N g k q : Nat} {s : Sq} (h : Fill w wx L n N g k s) (hk : k < N) : Fill w ((wx.drewN q).setCell ⟨g, k, none⟩ (.int .i64 (told s k))) L n N g (k + 1) s := by
  refine ⟨h.lo, fun hn => ⟨((h.sq hn).1.drewN q).far (h.sq hn).2.1 (h.sq hn).2.2, (h.sq hn).2⟩, fun i hi => isSome_set (h.any i hi), fun i hi => ?_, fun k => by rw [World.frozen?_setCell]; exact h.fz k, Below.setCell (below_drewN h.up q) h.lo _⟩
  by_cases e : i = k
  · subst e
    obtain ⟨v, hv⟩ := Option.isSome_iff_exists.1 (h.any i hk)
    exact World.cell?_setCell_same _ _ _ hv
  · exact cell_other (h.c i (by omega)) (Or.inr e)
theorem Fill.drewN {w wx : World} {L : Lay} {n N g k : Nat} {s : Sq} (h : Fill w wx L n N g k s) (q : Nat) : Fill w (wx.drewN q) L n N g k s := ⟨h.lo, fun hn => ⟨(h.sq hn).1.drewN q, (h.sq hn).2⟩, h.any, h.c, h.fz, below_drewN h.up q⟩
/-- What Most leaves. -/
def MostR (w : World) (N : Nat) (R : Nat → Nat) (T : Nat → Nat → Int) (e : Ending) (w' : World) : Prop := ∃ (g : Nat) (f : Nat → Int), e = .returned (.tuple #[.slice (some ⟨g, 0, none⟩) N N, .int .i64 (cnt N f), .int .i64 (tot N T f), .int .i64 0]) ∧ Hid (Best N R T f) ∧ Hid (Row w w' g N f)
set_option maxRecDepth 20000 in
set_option maxHeartbeats 1000000 in
theorem t15 {w : World} {p : Option Addr} {N cap : Nat} {R : Nat → Nat} {T : Nat → Nat → Int} (h : TV w p N R T) (hg : Good N R T) : Calls Try.prog 15 #[.slice p N cap] w (MostR w N R T) := by
  have HT : Hid (TV w p N R T) := h
  have HG : Hid (Good N R T) := hg
  have hN := hg.n
  have C24 : Hid (Calls Try.prog 24 #[.slice p N cap] w fun e w' => e = .returned (.int .i64 0) ∧ w' = w) := by
    refine (t24 h (by omega) (fun i hi => by have := (hg.r i hi).1; omega)).mono ?_
    rintro e w' ⟨z, h1, h2, h3⟩
    have := h2.out.good hg
    subst this
    exact ⟨h1, h3⟩
  have C25 := t25 (cap := cap) h hg
  have hs : side N R ≤ 256 := by
    unfold side
    split
    · have := (hg.r 0 (by assumption)).1; omega
    · omega
  have hNn : N ≤ side N R := by
    unfold side
    split <;> omega
  have HSI : Hid (side N R = side N R) := rfl
  have HSE : Hid (∀ s, Two (side N R) N s → (∀ i j, i < side N R → j < side N R → s.c i j = if i < N ∧ j < R i ∧ 0 ≤ T i j then T i j else 281474976710657) → Best N R T (told s)) := fun s h2 hc => h2.best hg rfl hc
  generalize side N R = n at *
  have HC25 : Hid (Calls Try.prog 25 #[.slice p N cap] w fun e w' => ∃ L s, e = .returned (.pointer (some ⟨L.bs, 0, none⟩)) ∧ Hid (SQ w' L n s) ∧ Hid (L.Ok w.heap.size n) ∧ Hid (Inv n 0 s) ∧ Hid (∀ i j, i < n → j < n → s.c i j = if i < N ∧ j < R i ∧ 0 ≤ T i j then T i j else 281474976710657) ∧ Hid (Up w w')) := C25
  have m1 := make23 N (by omega)
  clear h hg C25 HSI
  go_enter Try.func15, Try.ntmps15
  go_wp2_with (first | (go_at_call 24; (with_reducible refine C24.out.mono ?_); rintro e w' ⟨rfl, hw'⟩; subst w') | (go_at_call 25; (with_reducible refine HC25.out.mono ?_); rintro e w1 ⟨L, s, rfl, HS, HL, HI, HC, HU⟩; have h0 := HS.out.s0))
  go_loopw [23] (fun v wr => ∃ (k : Nat) (s' : Sq), k ≤ n ∧ v = .int .i64 k ∧ Hid (SQ wr L n s') ∧ Hid (Inv n k s' ∧ s'.c = s.c) ∧ Hid (Up w wr)) (fun v _ => n - (intOf v).toNat)
  case atStart => exact ⟨0, s, by omega, rfl, HS, ⟨HI.out, rfl⟩, HU⟩
  case round =>
    clear HS HI HU h0
    obtain ⟨k, s1, hk, rfl, HS, HI, HU⟩ := hrel
    rename World => wr
    by_cases hlt : k < n
    · have C26 : Hid (Calls Try.prog 26 #[.pointer (some ⟨L.bs, 0, none⟩), .int .i64 k] wr fun e w' => ∃ s', e = .returned (.tuple #[]) ∧ Hid (SQ w' L n s') ∧ Hid (Inv n (k + 1) s' ∧ s'.c = s1.c) ∧ Hid (Kq L _ wr w')) := t26 HS.out HL.out HI.out.1 hlt hs
      have hk' : (k : Int) < n := by omega
      go_wp2_with (first | (go_at_call 26; (with_reducible refine C26.out.mono ?_); rintro e w2 ⟨s2, rfl, HS2, HI2, HX2⟩))
      go_roundw
      case rel => exact ⟨k + 1, s2, by omega, by go_num, HS2, ⟨HI2.out.1, HI2.out.2.trans HI.out.2⟩, Below.trans HU.out HX2.out.1⟩
      case measure => simp [intOf]; omega
    · obtain rfl : k = n := by omega
      have HT0 : Hid (Two k 0 s1) := HI.out.1.two
      have hus := HU.out.size
      have HF0 : Hid (Fill w (wr.alloc (.cells (madeCells #[.int .i64 0] N) 3)) L k N wr.heap.size 0 s1) := by
        refine ⟨HU.out.size, fun hn => ⟨HS.out.up hn (Up.alloc _ _), ?_, fun i hi => ?_⟩, fun i hi => ?_, fun i hi => by omega, fun q => World.frozen?_alloc_at _ _ _ _ rfl, HU.out.trans (Up.alloc _ _)⟩
        · have := (HS.out.lt hn).1; omega
        · have := (HS.out.lt hn).2 i hi; omega
        · rw [World.cell?_alloc_at _ _ _ _ rfl, made_at _ hi]; rfl
      have HCC : Hid (s1.c = s.c) := HI.out.2
      go_wp2_with fail
      generalize wr.alloc (.cells (madeCells #[.int .i64 0] N) 3) = W2 at *
      generalize wr.heap.size = g at *
      clear HS HI HU m1
      go_loopw [35] (fun v wx => ∃ (a : Nat) (s2 : Sq), a ≤ N ∧ v = .int .i64 a ∧ Hid (Fill w wx L k N g 0 s2) ∧ Hid (Two k a s2 ∧ s2.c = s.c)) (fun v _ => N - (intOf v).toNat)
      case atStart => exact ⟨0, s1, by omega, rfl, HF0, HT0.out, HCC.out⟩
      case round =>
        clear HF0 HT0 HCC
        obtain ⟨a, s2, ha, rfl, HF, HTW⟩ := hrel
        rename World => wx
        by_cases hla : a < N
        · have ha' : (a : Int) < N := by omega
          have C27 : Hid (Calls Try.prog 27 #[.pointer (some ⟨L.bs, 0, none⟩), .int .i64 a] wx fun e w' => ∃ s', e = .returned (.tuple #[]) ∧ Hid (SQ w' L k s') ∧ Hid (Two k (a + 1) s' ∧ s'.c = s2.c) ∧ Hid (Kq L _ wx w')) := t27 (HF.out.sq (by omega)).1 HL.out HTW.out.1 (by omega) HF.out.up.size hs
          go_wp2_with (first | (go_at_call 27; (with_reducible refine C27.out.mono ?_); rintro e w3 ⟨s3, rfl, HS3, HI3, HX3⟩))
          have HF3 : Hid (Fill w w3 L k N g 0 s3) := by
            have hgl : ∀ i, i < N → g < wx.heap.size := fun i hi => by
              obtain ⟨v, hv⟩ := Option.isSome_iff_exists.1 (HF.out.any i hi)
              exact World.block_lt_of_cell? wx _ hv
            have hb := HX3.out.2 g (hgl a hla) (fun e => (HF.out.sq (by omega)).2.1.2.2.1 e.symm) (fun e => (HF.out.sq (by omega)).2.1.2.2.2 e.symm)
            refine ⟨HF.out.lo, fun hn => ⟨HS3.out, (HF.out.sq hn).2⟩, fun i hi => ?_, fun i hi => by omega, fun q => (World.frozen?_of_block hb).trans (HF.out.fz q), Below.trans HF.out.up HX3.out.1⟩
            rw [World.cell?_of_block hb]
            exact HF.out.any i hi
          go_roundw
          case rel => exact ⟨a + 1, s3, by omega, by go_num, HF3, HI3.out.1, HI3.out.2.trans HTW.out.2⟩
          case measure => simp [intOf]; omega
        · obtain rfl : a = N := by omega
          have HBE : Hid (Best a R T (told s2)) := HSE.out s2 HTW.out.1 (by rw [HTW.out.2]; exact HC.out)
          have HPER : Hid (Per k s2 ∧ Small k s2) := ⟨HTW.out.1.per, HTW.out.1.sm⟩
          clear HTW HSE
          go_wp2_with fail
          go_loopw [3, 4, 44] (fun v3 v4 v44 wy => ∃ (i : Nat), i ≤ a ∧ v3 = .int .i64 (cnt i (told s2)) ∧ v4 = .int .i64 (tot i T (told s2)) ∧ v44 = .int .i64 i ∧ Hid (Fill w wy L k a g i s2)) (fun _ _ v44 _ => a - (intOf v44).toNat)
          case atStart => exact ⟨0, by omega, rfl, rfl, rfl, HF⟩
          case round =>
            clear HF
            obtain ⟨i, hi, rfl, rfl, rfl, HF⟩ := hrel
            rename World => wy
            by_cases hli : i < a
            · have hi' : (i : Int) < a := by omega
              obtain ⟨j, hj, hmj, -⟩ := HPER.out.1.m i (by omega)
              have C28 : Hid (Calls Try.prog 28 #[.pointer (some ⟨L.bs, 0, none⟩), .int .i64 i] wy (DV wy (.int .i64 (told s2 i)))) := by
                have := t28 (HF.out.sq (by omega)).1 (by omega) hj hmj
                have e : told s2 i = toldI s2 i j := by unfold told; rw [hmj, Int.toNat_natCast]
                rw [e]; exact this
              obtain ⟨v0, hv0⟩ := Option.isSome_iff_exists.1 (HF.out.any i hli)
              have fz := HF.out.fz i
              have HCN : Hid (cnt (i + 1) (told s2) = cnt i (told s2) + if told s2 i = -1 then 0 else 1) := rfl
              have HTN : Hid (tot (i + 1) T (told s2) = tot i T (told s2) + if told s2 i = -1 then 0 else T i (told s2 i).toNat) := rfl
              have hcb := cnt_le (told s2) i
              have htb := tot_le (f := told s2) i (fun x y hx => HG.out.t x y (by omega)) (fun x hx => HBE.out.p.at' x (by omega))
              have HPT : Hid (∀ q, Fill w ((wy.drewN q).setCell ⟨g, i, none⟩ (.int .i64 (told s2 i))) L k a g (i + 1) s2) := fun q => HF.out.put hli
              have hTV : Hid (∀ q, TV ((wy.drewN q).setCell ⟨g, i, none⟩ (.int .i64 (told s2 i))) p a R T) := fun q => HT.out.up (HPT.out q).up
              rcases HBE.out.p.at' i hli with e | ⟨x, e, hx, hTx⟩
              · rw [e] at C28 HCN HTN HPT
                have HC28 : Hid (Calls Try.prog 28 #[.pointer (some ⟨L.bs, 0, none⟩), .int .i64 i] wy (DV wy (.int .i64 (-1)))) := C28
                have HC2 : Hid (cnt (i + 1) (told s2) = cnt i (told s2)) := by show _ = _; rw [HCN.out, if_pos rfl]; omega
                have HT2 : Hid (tot (i + 1) T (told s2) = tot i T (told s2)) := by show _ = _; rw [HTN.out, if_pos rfl]; omega
                have HPT2 : Hid (∀ q, Fill w ((wy.drewN q).setCell ⟨g, i, none⟩ (.int .i64 (-1))) L k a g (i + 1) s2) := HPT
                generalize cnt i (told s2) = ci at *
                generalize tot i T (told s2) = ti at *
                clear C28 HCN HTN HPT hTV e hmj
                go_wp2_with (first | (go_at_call 28; (with_reducible refine HC28.out.mono ?_); rintro e w' ⟨rfl, q0, hq0⟩; subst hq0))
                go_roundw
                case rel => exact ⟨i + 1, by omega, by rw [HC2.out], by rw [HT2.out], by go_num, HPT2.out _⟩
                case measure => simp [intOf]; omega
              · rw [e] at C28 HCN HTN HPT hTV
                have HC28 : Hid (Calls Try.prog 28 #[.pointer (some ⟨L.bs, 0, none⟩), .int .i64 i] wy (DV wy (.int .i64 x))) := C28
                have HC2 : Hid (cnt (i + 1) (told s2) = cnt i (told s2) + 1) := by show _ = _; rw [HCN.out, if_neg (by omega)]
                have HT2 : Hid (tot (i + 1) T (told s2) = tot i T (told s2) + T i x) := by show _ = _; rw [HTN.out, if_neg (by omega), Int.toNat_natCast]
                have HPT2 : Hid (∀ q, Fill w ((wy.drewN q).setCell ⟨g, i, none⟩ (.int .i64 x)) L k a g (i + 1) s2) := HPT
                have hTV2 : Hid (∀ q, TV ((wy.drewN q).setCell ⟨g, i, none⟩ (.int .i64 x)) p a R T) := hTV
                have hTb := HG.out.t i x hli hx
                have HE : Hid (told s2 i = x) := e
                have hx' : (x : Int) < R i := by omega
                generalize cnt i (told s2) = ci at *
                generalize tot i T (told s2) = ti at *
                clear C28 HCN HTN HPT hTV e hmj
                go_wp2_with (first | (go_at_call 28; (with_reducible refine HC28.out.mono ?_); rintro e w' ⟨rfl, q0, hq0⟩; subst hq0))
                have HF2 : Hid (Fill w ((wy.drewN q0).setCell ⟨g, i, none⟩ (.int .i64 x)) L k a g (i + 1) s2) := HPT2.out q0
                obtain ⟨b1, o1, q1, cq1, rfl, y1, y2⟩ := hTV2.out q0 i hli
                obtain ⟨b2, o2, rfl, y3⟩ := y2 x hx
                generalize (wy.drewN q0).setCell ⟨g, i, none⟩ (.int .i64 x) = W5 at *
                have y4 := HF2.out.c i (by omega)
                rw [HE.out] at y4
                have hTI : -9223372036854775808 ≤ ti + T i x ∧ ti + T i x ≤ 9223372036854775807 := by omega
                generalize T i x = tix at *
                generalize R i = ri at *
                clear hTV2 y2 HC28 hv0 fz HF
                go_quiet (fail)
                go_wp2_with fail
                go_roundw
                case rel => exact ⟨i + 1, by omega, by rw [HC2.out], by rw [HT2.out], by go_num, HF2.out.drewN _⟩
                case measure => simp [intOf]; omega
            · obtain rfl : i = a := by omega
              have HRW : Hid (Row w wy g i (told s2)) := ⟨HF.out.lo, HF.out.c, HF.out.fz, HF.out.up⟩
              go_wp2_with fail
              (try simp only [Exit.inBlock, Exit.then])
              refine bodyPost_ret (results_tmp4 rfl _ _ _) rfl ?_
              exact ⟨g, told s2, rfl, HBE, HRW⟩
end Go.Proofs.Ytdajgnchgealhaa

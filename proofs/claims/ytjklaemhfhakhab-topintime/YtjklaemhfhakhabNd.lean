/- What TopInTime's loops keep. -/
import Derived.Test.YtjklaemhfhakhabNb
namespace Go.Proofs.Ytjklaemhfhakhab
open Go.ChangeShapes Go.WideShapes Go.ChangeAt Go.RowKit

theorem Chn.len : ∀ {a b : Int} {l : List Sl}, Chn a l b → a + l.length ≤ b
  | a, _, [], h => by
    have h : a ≤ _ := h
    simpa using h
  | _, _, s :: l, h => by
    have k := Chn.len h.2.2
    have h1 := h.1
    have h2 := h.2.1
    rw [List.length_cons]
    omega
/-- What holds of a plan, and of what has been told of it. -/
structure QS (N : Nat) (T : Nat → Tk) (a d : Nat) (p : Pl) (D : List Sl) : Prop where
  light : a ≤ d → Light N (fun i => (T i).e) (fun i => (T i).l)
  over : d < a → denQ (fun i => (T i).e) N < numQ (fun i => (T i).e) (fun i => (T i).l) N
  si : SI N (fun i => (T i).e) (fun i => (T i).l) (fun i => (T i).r) p
  now : 0 ≤ p.now ∧ p.now ≤ allN N
  ch : Chn 0 D p.now
  tk : ∀ s ∈ D, 0 ≤ s.t ∧ s.t < N
  sh : ∀ i, i < N → shL D i = shP (fun i => (T i).e) (fun i => (T i).l) p i
  li : a ≤ d → LS N (fun i => (T i).e) (fun i => (T i).l) (fun i => (T i).r) 12 24 p ∧ ∀ s ∈ D, s.l = false
  bu : d < a → sumZ (shP (fun i => (T i).e) (fun i => (T i).l) p) N = p.now ∧ buL D = p.now
theorem QS.start {N : Nat} {T : Nat → Tk} {a d : Nat} (h : ∀ i, i < N → OkT (T i)) (ho : loadN (fun i => (T i).e.toNat) (fun i => (T i).l.toNat) N = some (a, d)) : QS N T a d (newP T) [] := by
  obtain ⟨_, l1, l2⟩ := light_new (fun i hi => (h i hi).may) ho
  have hA := allN_in N
  refine ⟨l1, l2, SI.start (fun i hi => (h i hi).may), ⟨Int.le_refl _, by show (0 : Int) ≤ _; omega⟩, Int.le_refl _, fun s hs => (List.not_mem_nil hs).elim, fun i _ => ?_, fun q => ⟨?_, fun s hs => (List.not_mem_nil hs).elim⟩, fun _ => ⟨?_, rfl⟩⟩
  · rw [shP_start]; rfl
  · exact (LS.start (M := 12) (fun i hi => ⟨(h i hi).may, (h i hi).e12⟩) (l1 q)).mono (by omega)
  · have : sumZ (shP (fun i => (T i).e) (fun i => (T i).l) (newP T)) N = sumZ (fun _ => 0) N := sumZ_congr N (fun i _ => shP_start T i)
    rw [this]
    show sumZ (fun _ => 0) N = 0
    clear this l1 l2 ho h hA
    induction N with
    | zero => rfl
    | succ k ih => show sumZ (fun _ => 0) k + 0 = 0; omega
theorem QS.step {N : Nat} {T : Nat → Tk} {a d : Nat} {p : Pl} {D : List Sl} (h : QS N T a d p D) {tick : Int} (h1 : p.now ≤ tick) (h2 : tick ≤ allN N) : QS N T a d (untilN N tick 65536 p).2 (D ++ (untilN N tick 65536 p).1) ∧ (untilN N tick 65536 p).2.now = tick ∧ D.length + (untilN N tick 65536 p).1.length ≤ 24 := by
  have hA := allN_in N
  have hn := h.now
  obtain ⟨i1, i2, i3, i4, i5, i6⟩ := h.si.until (tick := tick) (by omega) 65536 p h1 (by omega)
  have hc : Chn 0 (D ++ (untilN N tick 65536 p).1) tick := Chn.app i3 h.ch
  refine ⟨⟨h.light, h.over, i1, by rw [i2]; omega, by rw [i2]; exact hc, fun s hs => ?_, fun i hi => ?_, fun q => ?_, fun q => ?_⟩, i2, ?_⟩
  · rcases List.mem_append.1 hs with k | k
    · exact h.tk s k
    · exact i4 s k
  · rw [shL_app, h.sh i hi, i5 i hi]
  · obtain ⟨l1, l2⟩ := h.li q
    obtain ⟨u1, u2⟩ := l1.until (h.light q) tick (by omega) (by omega) 65536
    refine ⟨u2, fun s hs => ?_⟩
    rcases List.mem_append.1 hs with k | k
    · exact l2 s k
    · exact u1 s k
  · obtain ⟨b1, b2⟩ := h.bu q
    obtain ⟨j1, j2⟩ := i6 (h.over q) b1
    rw [i2]
    refine ⟨j1, ?_⟩
    rw [buL_app, b2, j2]
    omega
  · have := hc.len
    rw [List.length_append] at this
    omega
/-- The plan in memory, and what it told. -/
structure SV (w : World) (B N : Nat) (T : Nat → Tk) (a d bp : Nat) (v : Value) (D : List Sl) (p : Pl) (wr : World) : Prop where
  pl : ∃ L, PU wr L N p ∧ L.bp = bp ∧ ∀ b, L.Own N b → w.heap.size ≤ b ∧ b < B
  so : SO B wr v D
  bse : w.heap.size ≤ B ∧ B ≤ wr.heap.size
  up : Up w wr
  qs : QS N T a d p D
/-- And what Until told last. -/
structure SW (w : World) (B N : Nat) (T : Nat → Tk) (a d bp : Nat) (v v2 : Value) (D S : List Sl) (p : Pl) (wr : World) : Prop where
  pl : ∃ L, PU wr L N p ∧ L.bp = bp ∧ ∀ b, L.Own N b → w.heap.size ≤ b ∧ b < B
  so : SO B wr v D
  so2 : SO B wr v2 S
  bse : w.heap.size ≤ B ∧ B ≤ wr.heap.size
  up : Up w wr
  qs : QS N T a d p (D ++ S)
theorem SV.at7 {w : World} {B N : Nat} {T : Nat → Tk} {a d bp : Nat} {v : Value} {D : List Sl} {p : Pl} {wr : World} (h : SV w B N T a d bp v D p wr) : Calls Try.prog 7 #[.pointer (some ⟨bp, 0, none⟩)] wr (fun e w' => e = .returned (.int .i64 p.now) ∧ w' = wr) := by
  obtain ⟨L, h1, rfl, _⟩ := h.pl
  exact t7 h1.pw
theorem SV.at8 {w : World} {B N : Nat} {T : Nat → Tk} {a d bp : Nat} {pp : Option Addr} {ln cap : Nat} {D : List Sl} {p : Pl} {wr : World} (h : SV w B N T a d bp (.slice pp ln cap) D p wr) (hN : N ≤ 6) {tick : Int} (h1 : p.now ≤ tick) (h2 : tick ≤ allN N) :
    Calls Try.prog 8 #[.pointer (some ⟨bp, 0, none⟩), .int .i64 tick] wr (fun e w' => ∃ qq len c2 S p', e = .returned (.slice qq len c2) ∧ Hid (SW w B N T a d bp (.slice pp ln cap) (.slice qq len c2) D S p' w') ∧ Hid (p'.now = tick) ∧ Hid (ln + len ≤ 24)) := by
  obtain ⟨L, k1, rfl, k2⟩ := h.pl
  have hA := allN_in N
  have hn := h.qs.now
  obtain ⟨q1, q2, q3⟩ := h.qs.step h1 h2
  have := t8 k1.pw k1.ok k1.pb (by omega) tick (by omega)
  rw [show min tick 1152921504606846976 = tick by omega] at this
  refine this.mono ?_
  rintro e w' ⟨qq, c2, L', rfl, j1, j2, j3, j4⟩
  have hO : ∀ b, L.Own N b → w.heap.size ≤ b := fun b hb => (k2 b hb).1
  have hl := SO.len h.so
  refine ⟨qq, _, c2, _, _, rfl, ⟨⟨L', ⟨j2, j4.out.ok, j3⟩, j4.out.bp, fun b hb => k2 b (j4.out.own b hb)⟩, ?_, owns_base j1.out h.bse.2, ⟨h.bse.1, Nat.le_trans h.bse.2 j4.out.kp.size⟩, j4.out.upw h.up hO, q1⟩, q2, by rw [hl] at q3; exact q3⟩
  refine h.so.kp j4.out.kp fun r hr => ?_
  intro hq
  have h3 := (World.ownsRow.lt h.so r hr).1
  have h4 := (k2 r hq).2
  omega
theorem SW.app {w : World} {B N : Nat} {T : Nat → Tk} {a d bp : Nat} {v v2 v' : Value} {D S : List Sl} {p : Pl} {wr w' : World} (h : SW w B N T a d bp v v2 D S p wr) (h1 : SO B w' v' (D ++ S)) (h2 : wr.grownBy w' v.ownBlock) : SV w B N T a d bp v' (D ++ S) p w' := by
  obtain ⟨L, k1, k2, k3⟩ := h.pl
  have hr : ∀ r, v.ownBlock = some r → B ≤ r := fun r hr => (World.ownsRow.lt h.so r hr).1
  refine ⟨⟨L, ⟨k1.pw.kp (Kp.grown h2) fun b hb e => ?_, k1.ok, k1.pb⟩, k2, k3⟩, h1, ⟨h.bse.1, Nat.le_trans h.bse.2 h2.size⟩, up_grow h.up h2 fun k hk => ?_, h.qs⟩
  · have := hr b e.symm
    have := (k3 b hb).2
    omega
  · have := hr k hk
    have := h.bse.1
    omega
theorem SV.upp {w : World} {B N : Nat} {T : Nat → Tk} {a d bp : Nat} {v : Value} {D : List Sl} {p : Pl} {wr w' : World} (h : SV w B N T a d bp v D p wr) (hu : Up wr w') : SV w B N T a d bp v D p w' := by
  obtain ⟨L, k1, k2, k3⟩ := h.pl
  exact ⟨⟨L, ⟨k1.pw.up hu, k1.ok, k1.pb⟩, k2, k3⟩, h.so.up hu, ⟨h.bse.1, Nat.le_trans h.bse.2 hu.size⟩, h.up.trans hu, h.qs⟩
theorem SV.start {w w2 : World} {N : Nat} {T : Nat → Tk} {a d : Nat} {L : Ly} (h : ∀ i, i < N → OkT (T i)) (ho : loadN (fun i => (T i).e.toNat) (fun i => (T i).l.toNat) N = some (a, d)) (hp : PU w2 L N (newP T)) (hO : ∀ b, L.Own N b → w.heap.size ≤ b) (hu : Up w w2) : SV w w2.heap.size N T a d L.bp (.slice none 0 0) [] (newP T) w2 :=
  ⟨⟨L, hp, rfl, fun b hb => ⟨hO b hb, hp.pw.own_lt hb⟩⟩, SO.nil _ _, ⟨hu.size, Nat.le_refl _⟩, hu, QS.start h ho⟩
theorem info2 : (Try.prog.info? 2).map (fun i => (i.zero, i.size, i.bytes)) = some (some (.int .i64 0), 1, 8) := by kernel_rfl
theorem made2 (n : Nat) (hn : n ≤ 6) : ∃ A : Array Value, (∀ i, i < n → A[i]? = some (.int .i64 0)) ∧ (∀ w, (Instr.makeSlice 36 (.int .i64 n) (.int .i64 n)).run Try.prog w = .ok (.slice (some ⟨w.heap.size, 0, none⟩) n n) (w.alloc (.cells A 2))) := by
  obtain ⟨i0, hi, hz0, hz1, hz2⟩ := info_parts info2
  refine ⟨madeCells (Value.int .i64 0).cells (n * 1), fun i hi => ?_, fun w => ?_⟩
  · have e : (Value.int .i64 0).cells = #[.int .i64 0] := rfl
    rw [e]
    unfold madeCells
    simp [show i < n by omega, Nat.mod_one]
  · have := run_make (P := Try.prog) w 36 2 i0 _ Try.underlying36 hi hz0 .i64 .i64 n n (by omega) (by omega) (by rw [hz2]; omega) (by omega)
    rw [hz1] at this
    simpa using this
theorem Chn.sh : ∀ {a b : Int} {l : List Sl} (i : Int), Chn a l b → 0 ≤ shL l i ∧ shL l i ≤ b - a ∧ 0 ≤ buL l ∧ buL l ≤ b - a
  | a, b, [], i, h => by
    have h : a ≤ b := h
    show (0 : Int) ≤ 0 ∧ (0 : Int) ≤ b - a ∧ (0 : Int) ≤ 0 ∧ (0 : Int) ≤ b - a
    omega
  | a, b, s :: l, i, h => by
    obtain ⟨k1, k2, k3, k4⟩ := Chn.sh i h.2.2
    have h1 := h.1
    have h2 := h.2.1
    show 0 ≤ (if s.t = i then s.e - s.f else 0) + shL l i ∧ (if s.t = i then s.e - s.f else 0) + shL l i ≤ b - a ∧ 0 ≤ (s.e - s.f) + buL l ∧ (s.e - s.f) + buL l ≤ b - a
    split <;> omega
/-- What the loop over the stretches keeps. -/
structure LV (N : Nat) (D : List Sl) (A : Int) (gs : Nat) (W7 : World) (j : Nat) (bu at' : Int) (wr : World) : Prop where
  kp : Kp (fun b => b ≠ gs) W7 wr
  sh : ∀ i : Nat, i < N → wr.cell? ⟨gs, i, none⟩ = some (.int .i64 (shL (D.take j) i))
  fz : ∀ i, wr.frozen? ⟨gs, i, none⟩ = false
  bu : bu = buL (D.take j)
  ch0 : Chn 0 (D.take j) at'
  ch : Chn at' (D.drop j) A
theorem LV.next {N : Nat} {D : List Sl} {A : Int} {gs : Nat} {W7 : World} {j : Nat} {bu at' : Int} {wr w1 : World} (h : LV N D A gs W7 j bu at' wr) {t : Nat} {f e : Int} {l : Bool} (hs : D[j]? = some ⟨t, f, e, l⟩) (hu : Up wr w1) (hl : gs < wr.heap.size) {v b' : Int} (hv : v = shL (D.take j) t + (e - f)) (hb : b' = bu + (e - f)) :
    LV N D A gs W7 (j + 1) b' e (w1.setCell ⟨gs, t, none⟩ (.int .i64 v)) := by
  have hk1 : Kp (fun b => b ≠ gs) wr w1 := Kp.of_up hu
  have hk2 : Kp (fun b => b ≠ gs) w1 (w1.setCell ⟨gs, t, none⟩ (.int .i64 v)) := Kp.set _ _ (fun q => q rfl) _
  have ht : D.take (j + 1) = D.take j ++ [⟨t, f, e, l⟩] := by rw [List.take_add_one, hs]; rfl
  obtain ⟨hj, hjs⟩ := List.getElem?_eq_some_iff.1 hs
  have hd := List.drop_eq_getElem_cons hj
  rw [hjs] at hd
  have hc := h.ch
  rw [hd] at hc
  have one : ∀ i : Int, shL [⟨t, f, e, l⟩] i = if (t : Int) = i then e - f else 0 := fun i => by show (if (t : Int) = i then e - f else 0) + 0 = _; omega
  refine ⟨⟨hk2.os.trans (hk1.os.trans h.kp.os), hk2.tape.trans (hk1.tape.trans h.kp.tape), hk2.output.trans (hk1.output.trans h.kp.output), Nat.le_trans h.kp.size (Nat.le_trans hk1.size hk2.size), fun b hb hlb => (hk2.block b hb (Nat.lt_of_lt_of_le hlb (Nat.le_trans h.kp.size hk1.size))).trans ((hk1.block b hb (Nat.lt_of_lt_of_le hlb h.kp.size)).trans (h.kp.block b hb hlb))⟩, fun i hi => ?_, fun i => ?_, ?_, ?_, hc.2.2⟩
  · have h1 := cell_up (h.sh i hi) hu
    rw [ht, shL_app, one]
    by_cases q : t = i
    · subst q
      rw [if_pos rfl, ← hv]
      exact World.cell?_setCell_same _ _ _ h1
    · rw [if_neg (by omega), Int.add_zero]
      exact cell_other h1 (Or.inr (by show i ≠ t; omega))
  · rw [World.frozen?_setCell]
    exact frozen_up' (h.fz i) hl hu
  · rw [ht, buL_app, hb, h.bu]
    show _ = _ + ((e - f) + 0)
    omega
  · rw [ht]
    exact Chn.app (l := D.take j) (r := [⟨t, f, e, l⟩]) (b := at') ⟨hc.1, hc.2.1, Int.le_refl _⟩ h.ch0
theorem LV.upp {N : Nat} {D : List Sl} {A : Int} {gs : Nat} {W7 : World} {j : Nat} {bu at' : Int} {wr w1 : World} (h : LV N D A gs W7 j bu at' wr) (hu : Up wr w1) (hl : gs < wr.heap.size) : LV N D A gs W7 j bu at' w1 :=
  ⟨⟨hu.os.trans h.kp.os, hu.tape.trans h.kp.tape, hu.output.trans h.kp.output, Nat.le_trans h.kp.size hu.size, fun b hb hlb => (hu.block b (Nat.lt_of_lt_of_le hlb h.kp.size)).trans (h.kp.block b hb hlb)⟩, fun i hi => cell_up (h.sh i hi) hu, fun i => frozen_up' (h.fz i) hl hu, h.bu, h.ch0, h.ch⟩
theorem LV.nextD {N : Nat} {D : List Sl} {A : Int} {gs : Nat} {W7 : World} {j : Nat} {bu at' : Int} {wr w1 : World} (h : LV N D A gs W7 j bu at' wr) {t : Nat} {f e : Int} {l : Bool} (hs : D[j]? = some ⟨t, f, e, l⟩) (hu : Up wr w1) (hl : gs < wr.heap.size) {v b' : Int} (hv : v = shL (D.take j) t + (e - f)) (hb : b' = bu + (e - f)) :
    LV N D A gs W7 (j + 1) b' e (w1.setCell ⟨gs, t, none⟩ (.int .i64 v)).drew := by
  have hk2 : Kp (fun b => b ≠ gs) w1 (w1.setCell ⟨gs, t, none⟩ (.int .i64 v)) := Kp.set _ _ (fun q => q rfl) _
  exact (h.next hs hu hl hv hb).upp (Up.drewN _ 1) (Nat.lt_of_lt_of_le hl (Nat.le_trans hu.size hk2.size))
theorem LV.start {N : Nat} {D : List Sl} {A : Int} {AR : Array Value} {w6 : World} (hA : ∀ i, i < N → AR[i]? = some (.int .i64 0)) (hc : Chn 0 D A) : LV N D A w6.heap.size (w6.alloc (.cells AR 2)) 0 0 0 (w6.alloc (.cells AR 2)) := by
  have e := heap_alloc_last w6 (.cells AR 2)
  refine ⟨Kp.of_up (Up.refl _), fun i hi => ?_, fun i => (row_cell e i).2, rfl, Int.le_refl _, hc⟩
  rw [(row_cell e i).1, hA i hi]
  rfl
theorem Up.of_kp {w W7 wr : World} {gs : Nat} (hu : Up w W7) (hk : Kp (fun b => b ≠ gs) W7 wr) (hg : w.heap.size ≤ gs) : Up w wr := by
  have k1 : Kp (fun b => b < w.heap.size) w wr := ⟨hk.os.trans hu.os, hk.tape.trans hu.tape, hk.output.trans hu.output, Nat.le_trans hu.size hk.size, fun b hb hl => (hk.block b (by show b ≠ gs; omega) (Nat.lt_of_lt_of_le hl hu.size)).trans (hu.block b hl)⟩
  exact k1.up fun b hb => hb
/-- At the end each task has its share. -/
theorem QS.share {N : Nat} {T : Nat → Tk} {a d : Nat} {p : Pl} {D : List Sl} (h : QS N T a d p D) (hT : ∀ i, i < N → OkT (T i)) (hp : p.now = allN N) (ha : a ≤ d) {i : Nat} (hi : i < N) : shL D i = allN N / (T i).e * (T i).l := by
  have e := h.sh i hi
  rw [e]
  have hf := (h.li ha).1.feas
  have hn : allN N = 24 := by unfold allN; rw [if_neg (by omega)]
  have := h.si.whole hf hi (by rw [hp, hn]; exact (hT i hi).d)
  rw [hp] at this
  exact this
end Go.Proofs.Ytjklaemhfhakhab

/- Set, where what is released stays. -/
import Derived.Test.YtjklaemhfhakhaaKd
import Derived.Test.YtjklaemhfhakhaaHa
namespace Go.Proofs.Ytjklaemhfhakhaa
open Go.ChangeShapes Go.WideShapes Go.ChangeAt Go.RowKit

set_option maxHeartbeats 2000000 in
theorem t19c {w : World} {L : Ly} {n : Nat} {p : Pl} (h : PW w L n p) (hL : L.Ok n) {i : Nat} (hi : i < n) (hk : (p.c i).tl.length ≤ 1000000) (h0 : 0 ≤ (p.c i).last.nx) (h1 : (p.c i).last.nx ≤ p.now) (h2 : p.now ≤ 1152921504606846976) (he : 1 ≤ (p.c i).last.e) (he2 : (p.c i).last.e ≤ 1099511627776) {e l r : Int} (hm : MayT e l) (hne : ¬ ((p.c i).last.e = e ∧ (p.c i).last.l = l ∧ (p.c i).last.r = r)) : Calls Try.prog 19 #[.pointer (some ⟨L.bp, 0, none⟩), .int .i64 i, .agg #[.int .i64 e, .int .i64 l, .int .i64 r]] w (ChR w L n (p.set i ((p.c i).more ⟨aft (p.c i).last.nx (p.c i).last.e p.now, e, l, r⟩)) (.int .i64 0)) := by
  have H : Hid (PW w L n p) := h
  have HL : Hid (L.Ok n) := hL
  have g0 := h.p0
  have g1 := h.p1
  have l1 := h.lp
  have m1 : ¬ (i : Int) < 0 := by omega
  have m2 : ¬ (n : Int) ≤ (i : Int) := by omega
  have m3 : (i : Int) < (n : Int) := by omega
  have C25 : ∀ w, Hid (Calls Try.prog 25 #[.agg #[.int .i64 e, .int .i64 l, .int .i64 r]] w (VU w (.bool true))) := fun w => by
    have := t25 e l r w
    rw [(may_dec e l).2 hm] at this
    exact this
  have C40 : ∀ W, Hid (PW W L n p → Calls Try.prog 40 #[.pointer (some ⟨L.bt, i * 2, none⟩), .int .i64 p.now, .agg #[.int .i64 e, .int .i64 l, .int .i64 r]] W (ChR W L n (p.set i ((p.c i).more ⟨aft (p.c i).last.nx (p.c i).last.e p.now, e, l, r⟩)) (.tuple #[]))) := fun W hW => t40c hW HL.out hi hk h0 h1 h2 he he2 e l r hne
  clear h hL hk h0 h1 h2 he he2 hm hne
  go_enter Try.func19, Try.ntmps19
  go_upto_region 5 with (go_at_call 25; (with_reducible refine ((C25 _).out).mono ?_); rintro e w1 ⟨rfl, HU1⟩)
  have HP1 : Hid (PW w1 L n p) := H.out.up ((Up.alloc _ _).trans HU1.out)
  have HW1 : Hid (Up w w1) := (Up.alloc _ _).trans HU1.out
  have HT : Hid (TkAt w1 w.heap.size 0 ⟨e, l, r⟩) := by
    have e0 := heap_alloc_last w (.cells #[.int .i64 e, .int .i64 l, .int .i64 r] 26)
    have : TkAt (w.alloc (.cells #[.int .i64 e, .int .i64 l, .int .i64 r] 26)) w.heap.size 0 ⟨e, l, r⟩ := ⟨(row_cell e0 0).1, by rw [Nat.zero_add]; exact (row_cell e0 1).1, by rw [Nat.zero_add]; exact (row_cell e0 2).1⟩
    exact this.up HU1.out
  have k0 := HP1.out.p0
  have k1 := HP1.out.p1
  refine wp_region_up 11 [cV (.pointer (some ⟨L.bp, 0, none⟩)), cV (.pointer (some ⟨L.bp, 0, none⟩)), cV (.pointer (some ⟨L.bp, 1, none⟩)), cV (.slice (some ⟨L.bt, 0, none⟩) n n), cV (.int .i64 i), cV (.pointer (some ⟨L.bt, i * 2, none⟩)), cV (.pointer (some ⟨L.bp, 0, none⟩)), cV (.pointer (some ⟨L.bp, 0, none⟩)), cV (.pointer (some ⟨L.bp, 0, none⟩)), cV (.int .i64 p.now), cV (.agg #[.int .i64 e, .int .i64 l, .int .i64 r])] (by kernel_rfl) (by decide) rfl (by kernel_rfl) (by kernel_rfl) ⟨mV _, mV _, mV _, mV _, mV _, mV _, mV _, mV _, mV _, mV _, mV _, trivial⟩ ?_
  intro vals
  simp only [List.take_succ_cons, List.take_zero, valsN, FillL, Act.put, List.setIfInBounds_toArray, List.set_cons_succ, List.set_cons_zero, Nat.zero_add, Nat.reduceAdd]
  refine ⟨⟨fun v hu h => ?_, fun v hu h => ?_, fun v hu h => ?_, fun v hu h => ?_, fun v hu h => ?_, fun v hu h => ?_, fun v hu h => ?_, fun v hu h => ?_, fun v hu h => ?_, fun v hu h => ?_, fun v hu h => ?_, trivial⟩, fun v hu h => ?_⟩
  all_goals have h0 := hu
  · refine UpO.is _ rfl rfl ?_
    go_simp
  · have e0 : vals 0 = .pointer (some ⟨L.bp, 0, none⟩) := h 0 (by decide) (by kernel_rfl)
    refine UpO.is _ rfl rfl ?_
    rw [e0]
    go_simp
  · have e1 : vals 1 = .pointer (some ⟨L.bp, 0, none⟩) := h 1 (by decide) (by kernel_rfl)
    refine UpO.is _ rfl rfl ?_
    rw [e1]
    go_simp
  · have e2 : vals 2 = .pointer (some ⟨L.bp, 1, none⟩) := h 2 (by decide) (by kernel_rfl)
    have z := cell_up k1 h0
    refine UpO.is _ rfl rfl ?_
    rw [e2]
    go_simp
  · refine UpO.is _ rfl rfl ?_
    go_simp
  · have e3 : vals 3 = .slice (some ⟨L.bt, 0, none⟩) n n := h 3 (by decide) (by kernel_rfl)
    have e4 : vals 4 = .int .i64 i := h 4 (by decide) (by kernel_rfl)
    refine UpO.is _ rfl rfl ?_
    rw [e3, e4]
    go_simp
  · refine UpO.is _ rfl rfl ?_
    go_simp
  · have e6 : vals 6 = .pointer (some ⟨L.bp, 0, none⟩) := h 6 (by decide) (by kernel_rfl)
    refine UpO.is _ rfl rfl ?_
    rw [e6]
    go_simp
  · have e7 : vals 7 = .pointer (some ⟨L.bp, 0, none⟩) := h 7 (by decide) (by kernel_rfl)
    refine UpO.is _ rfl rfl ?_
    rw [e7]
    go_simp
  · have e8 : vals 8 = .pointer (some ⟨L.bp, 0, none⟩) := h 8 (by decide) (by kernel_rfl)
    have z := cell_up k0 h0
    refine UpO.is _ rfl rfl ?_
    rw [e8]
    go_simp
  · obtain ⟨t0, t1, t2⟩ := HT.out.up h0
    simp only [Nat.zero_add] at t0 t1 t2
    refine UpO.is _ rfl rfl ?_
    go_simp
  · have e5 : vals 5 = .pointer (some ⟨L.bt, i * 2, none⟩) := h 5 (by decide)
    have e9 : vals 9 = .int .i64 p.now := h 9 (by decide)
    have e10 : vals 10 = .agg #[.int .i64 e, .int .i64 l, .int .i64 r] := h 10 (by decide)
    clear h
    rw [e5, e9, e10]
    clear e5 e9 e10
    simp only [List.drop_succ_cons, List.drop_zero]
    have HPV : Hid (PW v L n p) := HP1.out.up hu
    have HUV : Hid (Up w v) := HW1.out.trans hu
    go_wp2_with (go_at_call 40; (with_reducible refine ((C40 _).out HPV.out).mono ?_); rintro e w3 ⟨rfl, L2, HP3, HK3⟩)
    go_ret
    exact ⟨rfl, L2, HP3, KeptG.after HUV.out HK3.out⟩
end Go.Proofs.Ytjklaemhfhakhaa
/- Several plans beside each other. -/
namespace Go.Proofs.Ytjklaemhfhakhaa
open Go.ChangeShapes Go.WideShapes Go.ChangeAt Go.RowKit

/-- A plan: where it lies, how many tasks, what it has become. -/
structure PE where
  b : Nat
  n : Nat
  p : Pl
/-- Blocks that no plan has. -/
def Fa (w0 : World) (B : Nat) (b : Nat) : Prop := ¬ (w0.heap.size ≤ b ∧ b < B)
/-- Plans beside each other; what they have lies from where w0 ends up to B. -/
structure PL (w0 w : World) (B : Nat) (l : List PE) : Prop where
  up : Up w0 w
  lo : w0.heap.size ≤ B
  hi : B ≤ w.heap.size
  pl : ∃ Ls : Nat → Ly, (∀ i x, l[i]? = some x → PU w (Ls i) x.n x.p ∧ (Ls i).bp = x.b ∧ ∀ g, (Ls i).Own x.n g → w0.heap.size ≤ g ∧ g < B) ∧ ∀ i j x y, l[i]? = some x → l[j]? = some y → i ≠ j → ∀ g, (Ls i).Own x.n g → ¬ (Ls j).Own y.n g
theorem PU.up {w w' : World} {L : Ly} {n : Nat} {p : Pl} (h : PU w L n p) (hu : Up w w') : PU w' L n p := ⟨h.pw.up hu, h.ok, h.pb⟩
theorem PU.kp {F : Nat → Prop} {w w' : World} {L : Ly} {n : Nat} {p : Pl} (h : PU w L n p) (hk : Kp F w w') (hF : ∀ k, L.Own n k → F k) : PU w' L n p := ⟨h.pw.kp hk hF, h.ok, h.pb⟩
theorem PL.start (w : World) : PL w w w.heap.size [] := ⟨Up.refl w, Nat.le_refl _, Nat.le_refl _, fun _ => ⟨0, 0, fun _ => 0, fun _ => 0, fun _ => 0⟩, fun i x h => by simp at h, fun i j x y h => by simp at h⟩
theorem Kp.upon {w w' w0 : World} {B : Nat} (h : Up w0 w) (hB : w0.heap.size ≤ B) (hk : Kp (fun b => b < B) w w') : Up w0 w' :=
  ⟨hk.os.trans h.os, hk.tape.trans h.tape, hk.output.trans h.output, Nat.le_trans h.size hk.size, fun k hl => (hk.block k (by show k < B; omega) (Nat.lt_of_lt_of_le hl h.size)).trans (h.block k hl)⟩
/-- What is turned lies behind all plans. -/
theorem PL.kp {w0 w w' : World} {B : Nat} {l : List PE} (h : PL w0 w B l) (hk : Kp (fun b => b < B) w w') : PL w0 w' B l := by
  obtain ⟨Ls, h1, h2⟩ := h.pl
  refine ⟨Kp.upon h.up h.lo hk, h.lo, Nat.le_trans h.hi hk.size, Ls, fun i x hx => ?_, h2⟩
  obtain ⟨k1, k2, k3⟩ := h1 i x hx
  exact ⟨k1.kp hk (fun k q => (k3 k q).2), k2, k3⟩
theorem PL.upw {w0 w w' : World} {B : Nat} {l : List PE} (h : PL w0 w B l) (hu : Up w w') : PL w0 w' B l := h.kp (Kp.of_up hu)
theorem PL.add {w0 w w' : World} {B : Nat} {l : List PE} (h : PL w0 w B l) {L : Ly} {n : Nat} {p : Pl} (hp : PU w' L n p) (hu : Up w w') (ho : ∀ b, L.Own n b → w.heap.size ≤ b) : PL w0 w' w'.heap.size (l ++ [⟨L.bp, n, p⟩]) := by
  obtain ⟨Ls, h1, h2⟩ := h.pl
  have e : ∀ i x, (l ++ [⟨L.bp, n, p⟩])[i]? = some x → (l[i]? = some x ∧ i < l.length) ∨ (i = l.length ∧ x = ⟨L.bp, n, p⟩) := fun i x hx => by
    rcases Nat.lt_or_ge i l.length with q | q
    · rw [List.getElem?_append_left q] at hx
      exact Or.inl ⟨hx, q⟩
    · rw [List.getElem?_append_right q] at hx
      have : i - l.length = 0 := by
        rcases Nat.eq_zero_or_pos (i - l.length) with z | z
        · exact z
        · rw [List.getElem?_eq_none (by simp; omega)] at hx; cases hx
      rw [this] at hx
      simp only [List.getElem?_cons_zero, Option.some.injEq] at hx
      exact Or.inr ⟨by omega, hx.symm⟩
  have hB : B ≤ w'.heap.size := Nat.le_trans h.hi hu.size
  refine ⟨h.up.trans hu, Nat.le_trans h.lo hB, Nat.le_refl _, fun i => if i = l.length then L else Ls i, fun i x hx => ?_, fun i j x y hx hy hij g hg => ?_⟩
  · rcases e i x hx with ⟨q1, q2⟩ | ⟨rfl, rfl⟩
    · obtain ⟨k1, k2, k3⟩ := h1 i x q1
      simp only [if_neg (show i ≠ l.length by omega)]
      exact ⟨k1.up hu, k2, fun g hg => ⟨(k3 g hg).1, Nat.lt_of_lt_of_le (k3 g hg).2 hB⟩⟩
    · simp only [if_pos]
      exact ⟨hp, trivial, fun g hg => ⟨Nat.le_trans h.up.size (ho g hg), hp.pw.own_lt hg⟩⟩
  · rcases e i x hx with ⟨q1, q2⟩ | ⟨rfl, rfl⟩
    · simp only [if_neg (show i ≠ l.length by omega)] at hg
      rcases e j y hy with ⟨q3, q4⟩ | ⟨rfl, rfl⟩
      · simp only [if_neg (show j ≠ l.length by omega)]
        exact h2 i j x y q1 q3 hij g hg
      · simp only [if_pos]
        intro q
        have a := ho g q
        have b := ((h1 i x q1).2.2 g hg).2
        have c := h.hi
        omega
    · simp only [if_pos] at hg
      rcases e j y hy with ⟨q3, q4⟩ | ⟨rfl, rfl⟩
      · simp only [if_neg (show j ≠ l.length by omega)]
        intro q
        have a := ho g hg
        have b := ((h1 j y q3).2.2 g q).2
        have c := h.hi
        omega
      · exact absurd rfl hij
theorem set_cases {l : List PE} {k i : Nat} {x y : PE} (h : (l.set k y)[i]? = some x) : (i = k ∧ x = y) ∨ (i ≠ k ∧ l[i]? = some x) := by
  by_cases q : i = k
  · subst q
    rw [List.getElem?_set_self'] at h
    cases e : l[i]? with
    | none => rw [e] at h; simp at h
    | some z => rw [e] at h; simp at h; exact Or.inl ⟨rfl, h.symm⟩
  · rw [List.getElem?_set_ne (fun e => q e.symm)] at h
    exact Or.inr ⟨q, h⟩
/-- One of them has been turned. -/
theorem PL.turned {w0 w w' : World} {B : Nat} {l : List PE} {k n : Nat} {p' : Pl} {Ls : Nat → Ly} {x : PE} (h : PL w0 w B l) (h1 : ∀ i x, l[i]? = some x → PU w (Ls i) x.n x.p ∧ (Ls i).bp = x.b ∧ ∀ g, (Ls i).Own x.n g → w0.heap.size ≤ g ∧ g < B) (h2 : ∀ i j x y, l[i]? = some x → l[j]? = some y → i ≠ j → ∀ g, (Ls i).Own x.n g → ¬ (Ls j).Own y.n g)
    (hx : l[k]? = some x) (hn : x.n = n) {L' : Ly} (hp : PU w' L' n p') (hk : KeptG n w w' (Ls k) L') : PL w0 w' w'.heap.size (l.set k ⟨x.b, n, p'⟩) ∧ Kp (Fa w0 B) w w' := by
  subst hn
  obtain ⟨k1, k2, k3⟩ := h1 k x hx
  have hkp : Kp (Fa w0 B) w w' := hk.kp.mono fun b _ hb hq => hb (k3 b hq)
  have hB : B ≤ w'.heap.size := Nat.le_trans h.hi hk.kp.size
  have hup : Up w0 w' := ⟨hkp.os.trans h.up.os, hkp.tape.trans h.up.tape, hkp.output.trans h.up.output, Nat.le_trans h.up.size hkp.size, fun b hl => (hkp.block b (fun q => by omega) (Nat.lt_of_lt_of_le hl h.up.size)).trans (h.up.block b hl)⟩
  refine ⟨⟨hup, Nat.le_trans h.lo hB, Nat.le_refl _, fun i => if i = k then L' else Ls i, fun i y hy => ?_, fun i j y z hy hz hij g hg => ?_⟩, hkp⟩
  · rcases set_cases hy with ⟨rfl, rfl⟩ | ⟨q1, q2⟩
    · simp only [if_pos]
      refine ⟨hp, hk.bp.trans k2, fun g hg => ⟨?_, hp.pw.own_lt hg⟩⟩
      rcases hk.own g hg with q | q
      · exact (k3 g q).1
      · exact Nat.le_trans h.up.size q
    · simp only [if_neg q1]
      obtain ⟨j1, j2, j3⟩ := h1 i y q2
      exact ⟨j1.kp hk.kp (fun g hg => h2 i k y x q2 hx q1 g hg), j2, fun g hg => ⟨(j3 g hg).1, Nat.lt_of_lt_of_le (j3 g hg).2 hB⟩⟩
  · rcases set_cases hy with ⟨rfl, rfl⟩ | ⟨q1, q2⟩
    · simp only [if_pos] at hg
      rcases set_cases hz with ⟨rfl, rfl⟩ | ⟨q3, q4⟩
      · exact absurd rfl hij
      · simp only [if_neg q3]
        intro q
        rcases hk.own g hg with a | a
        · exact h2 i j x z hx q4 hij g a q
        · have b := ((h1 j z q4).2.2 g q).2
          have c := h.hi
          omega
    · simp only [if_neg q1] at hg
      rcases set_cases hz with ⟨rfl, rfl⟩ | ⟨q3, q4⟩
      · simp only [if_pos]
        intro q
        rcases hk.own g q with a | a
        · exact h2 i j y x q2 hx hij g hg a
        · have b := ((h1 i y q2).2.2 g hg).2
          have c := h.hi
          omega
      · simp only [if_neg q3]
        exact h2 i j y z q2 q4 hij g hg
/-- .. and has no block more. -/
theorem PL.turned0 {w0 w w' : World} {B : Nat} {l : List PE} {k n : Nat} {p' : Pl} {Ls : Nat → Ly} {x : PE} (h : PL w0 w B l) (h1 : ∀ i x, l[i]? = some x → PU w (Ls i) x.n x.p ∧ (Ls i).bp = x.b ∧ ∀ g, (Ls i).Own x.n g → w0.heap.size ≤ g ∧ g < B) (h2 : ∀ i j x y, l[i]? = some x → l[j]? = some y → i ≠ j → ∀ g, (Ls i).Own x.n g → ¬ (Ls j).Own y.n g)
    (hx : l[k]? = some x) (hn : x.n = n) {L' : Ly} (hp : PU w' L' n p') (hk : Kept n w w' (Ls k) L') : PL w0 w' B (l.set k ⟨x.b, n, p'⟩) ∧ Kp (Fa w0 B) w w' := by
  subst hn
  obtain ⟨k1, k2, k3⟩ := h1 k x hx
  have hkp : Kp (Fa w0 B) w w' := hk.kp.mono fun b _ hb hq => hb (k3 b hq)
  have hB : B ≤ w'.heap.size := Nat.le_trans h.hi hk.kp.size
  have hup : Up w0 w' := ⟨hkp.os.trans h.up.os, hkp.tape.trans h.up.tape, hkp.output.trans h.up.output, Nat.le_trans h.up.size hkp.size, fun b hl => (hkp.block b (fun q => by omega) (Nat.lt_of_lt_of_le hl h.up.size)).trans (h.up.block b hl)⟩
  refine ⟨⟨hup, h.lo, hB, fun i => if i = k then L' else Ls i, fun i y hy => ?_, fun i j y z hy hz hij g hg => ?_⟩, hkp⟩
  · rcases set_cases hy with ⟨rfl, rfl⟩ | ⟨q1, q2⟩
    · simp only [if_pos]
      exact ⟨hp, hk.bp.trans k2, fun g hg => k3 g (hk.own g hg)⟩
    · simp only [if_neg q1]
      obtain ⟨j1, j2, j3⟩ := h1 i y q2
      exact ⟨j1.kp hk.kp (fun g hg => h2 i k y x q2 hx q1 g hg), j2, j3⟩
  · rcases set_cases hy with ⟨rfl, rfl⟩ | ⟨q1, q2⟩
    · simp only [if_pos] at hg
      rcases set_cases hz with ⟨rfl, rfl⟩ | ⟨q3, q4⟩
      · exact absurd rfl hij
      · simp only [if_neg q3]
        exact h2 i j x z hx q4 hij g (hk.own g hg)
    · simp only [if_neg q1] at hg
      rcases set_cases hz with ⟨rfl, rfl⟩ | ⟨q3, q4⟩
      · simp only [if_pos]
        exact fun q => h2 i j y x q2 hx hij g hg (hk.own g q)
      · simp only [if_neg q3]
        exact h2 i j y z q2 q4 hij g hg
theorem SO.keep {w0 w w' : World} {B b : Nat} {v : Value} {D : List Sl} (h : SO b w v D) (hb : B ≤ b) (hk : Kp (Fa w0 B) w w') : SO b w' v D := h.kp hk fun r hr q => by
  have := (World.ownsRow.lt h r hr).1
  omega
theorem SlAt.keep {w0 w w' : World} {B g o : Nat} {s : Sl} (h : SlAt w g o s) (hb : B ≤ g) (hk : Kp (Fa w0 B) w w') : SlAt w' g o s := h.kp hk (fun q => by omega)

/-- The calls. -/
theorem PL.c10 {w0 w : World} {B : Nat} {l : List PE} (h : PL w0 w B l) {q : Option Addr} {n cap : Nat} {T : Nat → Tk} (hT : TL w q n cap T) (hn : n ≤ 256) (hm : ∀ i, i < n → MayT (T i).e (T i).l) :
    Calls Try.prog 10 #[.slice q n cap] w (fun e w' => ∃ b, e = .returned (.tuple #[.pointer (some ⟨b, 0, none⟩), .int .i64 0]) ∧ Hid (PL w0 w' w'.heap.size (l ++ [⟨b, n, newP T⟩])) ∧ Hid (Up w w')) := by
  refine (t10 hT hn).mono ?_
  rintro e w' (⟨_, L, h1, h2, h3, h4, h5⟩ | ⟨h1, _⟩)
  · exact ⟨L.bp, h1, h.add ⟨h2.out, h3.out, PB.newP hm⟩ h5.out h4.out, h5⟩
  · exact absurd hm h1
theorem PL.c17 {w0 w : World} {B : Nat} {l : List PE} (h : PL w0 w B l) (k : Nat) {b n : Nat} {p : Pl} (hx : l[k]? = some ⟨b, n, p⟩) (hn : n ≤ 256) (h0 : 0 < n) (ht : nextE n p ≤ 1152921504606846976) :
    Calls Try.prog 17 #[.pointer (some ⟨b, 0, none⟩)] w (fun e w' => e = .returned (.tuple #[(nextP n p).1.val, .int .i64 0]) ∧ Hid (PL w0 w' B (l.set k ⟨b, n, (nextP n p).2⟩)) ∧ Hid (Kp (Fa w0 B) w w')) := by
  obtain ⟨Ls, h1, h2⟩ := h.pl
  obtain ⟨k1, k2, k3⟩ := h1 k _ hx
  obtain ⟨q1, q2⟩ := t17k k1.pw k1.ok k1.pb hn h0 ht
  simp only at k2
  rw [k2] at q1
  refine q1.mono ?_
  rintro e w' ⟨rfl, L', j1, j2⟩
  obtain ⟨a, c⟩ := h.turned0 (n := n) h1 h2 hx rfl ⟨j1.out, j2.out.ok, q2⟩ j2.out
  exact ⟨rfl, a, c⟩
theorem PL.c18 {w0 w : World} {B : Nat} {l : List PE} (h : PL w0 w B l) (k : Nat) {b n : Nat} {p : Pl} (hx : l[k]? = some ⟨b, n, p⟩) (hn : n ≤ 256) (t0 t : Int) (hlo : -9223372036854775808 ≤ t0) (ht : min t0 1152921504606846976 = t) {D : List Sl} {p' : Pl} (hu : untilN n t 65536 p = (D, p')) :
    Calls Try.prog 18 #[.pointer (some ⟨b, 0, none⟩), .int .i64 t0] w (fun e w' => ∃ q c, e = .returned (.slice q D.length c) ∧ Hid (SO w.heap.size w' (.slice q D.length c) D) ∧ Hid (PL w0 w' B (l.set k ⟨b, n, p'⟩)) ∧ Hid (Kp (Fa w0 B) w w')) := by
  obtain ⟨Ls, h1, h2⟩ := h.pl
  obtain ⟨k1, k2, k3⟩ := h1 k _ hx
  have q1 := t18 k1.pw k1.ok k1.pb hn t0 hlo
  simp only at k2
  rw [k2, ht] at q1
  refine q1.mono ?_
  rintro e w' ⟨pp, c, L', j1, j2, j3, j4, j5⟩
  rw [hu] at j1 j2 j3 j4
  obtain ⟨a, d⟩ := h.turned0 (n := n) h1 h2 hx rfl ⟨j3.out, j5.out.ok, j4.out⟩ j5.out
  exact ⟨pp, c, j1, j2, a, d⟩
theorem PL.c15 {w0 w : World} {B : Nat} {l : List PE} (h : PL w0 w B l) (k : Nat) {b n : Nat} {p : Pl} (hx : l[k]? = some ⟨b, n, p⟩) : Calls Try.prog 15 #[.pointer (some ⟨b, 0, none⟩)] w (fun e w' => e = .returned (.int .i64 p.now) ∧ w' = w) := by
  obtain ⟨Ls, h1, h2⟩ := h.pl
  obtain ⟨k1, k2, k3⟩ := h1 k _ hx
  have := t15 k1.pw
  simp only at k2
  rw [k2] at this
  exact this
theorem PL.c13 {w0 w : World} {B : Nat} {l : List PE} (h : PL w0 w B l) (k : Nat) {b n : Nat} {p : Pl} (hx : l[k]? = some ⟨b, n, p⟩) (hn : n ≤ 256) (E L' : Nat → Nat) (hE : ∀ i, i < n → ((E i : Nat) : Int) = (p.c i).last.e ∧ ((L' i : Nat) : Int) = (p.c i).last.l ∧ 1 ≤ E i ∧ E i ≤ 1099511627776 ∧ L' i ≤ 1099511627776) : Calls Try.prog 13 #[.pointer (some ⟨b, 0, none⟩)] w (VU w (loadV (loadN E L' n))) := by
  obtain ⟨Ls, h1, h2⟩ := h.pl
  obtain ⟨k1, k2, k3⟩ := h1 k _ hx
  have := t13 k1.pw k1.pb E L' hE hn
  simp only at k2
  rw [k2] at this
  exact this
/-- Set of a task that is not released yet, the only one of its kind. -/
theorem PL.c19a {w0 w : World} {B : Nat} {l : List PE} (h : PL w0 w B l) (k : Nat) {b n : Nat} {p : Pl} (hx : l[k]? = some ⟨b, n, p⟩) {i : Nat} (hi : i < n) (ht : (p.c i).tl = []) (hnow : p.now < (p.c i).hd.nx) {e l' r : Int} (hm : MayT e l') (hd : (p.c i).done < l') :
    Calls Try.prog 19 #[.pointer (some ⟨b, 0, none⟩), .int .i64 i, .agg #[.int .i64 e, .int .i64 l', .int .i64 r]] w (fun en w' => en = .returned (.int .i64 0) ∧ Hid (PL w0 w' B (l.set k ⟨b, n, p.set i ⟨⟨(p.c i).hd.nx, e, l', r⟩, [], (p.c i).done⟩⟩)) ∧ Hid (Kp (Fa w0 B) w w')) := by
  obtain ⟨Ls, h1, h2⟩ := h.pl
  obtain ⟨k1, k2, k3⟩ := h1 k _ hx
  have q1 := t19a k1.pw k1.ok hi ht hnow (r := r) hm
  simp only at k2
  rw [k2] at q1
  refine q1.mono ?_
  rintro en w' ⟨rfl, L', j1, j2⟩
  have o := k1.pb.c i hi
  have hpb : PB n (p.set i ⟨⟨(p.c i).hd.nx, e, l', r⟩, [], (p.c i).done⟩) := ⟨k1.pb.now, fun j hj => by
    by_cases q : j = i
    · subst q
      rw [Pl.set_at]
      exact ⟨⟨hm, o.hd.lo, o.hd.hi⟩, fun x q => (List.not_mem_nil q).elim, by show 0 ≤ 1152921504606846976; omega, o.lo, hd⟩
    · rw [Pl.set_ne _ _ q]; exact k1.pb.c j hj⟩
  obtain ⟨a, c⟩ := h.turned0 (n := n) h1 h2 hx rfl ⟨j1.out, j2.out.ok, hpb⟩ j2.out
  exact ⟨rfl, a, c⟩
/-- Set where what is released stays. -/
theorem PL.c19c {w0 w : World} {B : Nat} {l : List PE} (h : PL w0 w B l) (k : Nat) {b n : Nat} {p : Pl} (hx : l[k]? = some ⟨b, n, p⟩) {i : Nat} (hi : i < n) (ht : (p.c i).tl = []) {nx e0 l0 r0 dn : Int} (hc : (p.c i).hd = ⟨nx, e0, l0, r0⟩) (hd : (p.c i).done = dn) (hnow : nx ≤ p.now) {e l' r : Int} (hm : MayT e l') (hne : ¬ (e0 = e ∧ l0 = l' ∧ r0 = r)) {A : Int} (hA : aft nx e0 p.now = A) :
    Calls Try.prog 19 #[.pointer (some ⟨b, 0, none⟩), .int .i64 i, .agg #[.int .i64 e, .int .i64 l', .int .i64 r]] w (fun en w' => en = .returned (.int .i64 0) ∧ Hid (PL w0 w' w'.heap.size (l.set k ⟨b, n, p.set i ⟨⟨nx, e0, l0, r0⟩, [⟨A, e, l', r⟩], dn⟩⟩)) ∧ Hid (Kp (Fa w0 B) w w')) := by
  obtain ⟨Ls, h1, h2⟩ := h.pl
  obtain ⟨k1, k2, k3⟩ := h1 k _ hx
  have o := k1.pb.c i hi
  have hl : (p.c i).last = ⟨nx, e0, l0, r0⟩ := by
    rw [← hc]
    unfold Crs.last
    simp only [ht]
    rfl
  have oh := o.hd
  rw [hc] at oh
  obtain ⟨m1, m2, m3⟩ := oh.may
  have lo := oh.lo
  have nw := k1.pb.now
  simp only at m1 m2 m3 lo nw
  have q1 := t19c k1.pw k1.ok hi (by rw [ht]; show 0 ≤ 1000000; omega) (by rw [hl]; exact lo) (by rw [hl]; exact hnow) nw.2 (by rw [hl]; show 1 ≤ e0; omega) (by rw [hl]; exact m3) (r := r) hm (by rw [hl]; exact hne)
  have hmore : (p.c i).more ⟨A, e, l', r⟩ = ⟨⟨nx, e0, l0, r0⟩, [⟨A, e, l', r⟩], dn⟩ := by
    unfold Crs.more
    rw [ht, hc, hd]
    rfl
  simp only at k2
  rw [k2, hl, hA, hmore] at q1
  refine q1.mono ?_
  rintro en w' ⟨rfl, L', j1, j2⟩
  obtain ⟨b1, b2, b3, b4, b5⟩ := aft_bd hnow (show 1 ≤ e0 by omega)
  rw [hA] at b1 b2
  have hpb : PB n (p.set i ⟨⟨nx, e0, l0, r0⟩, [⟨A, e, l', r⟩], dn⟩) := ⟨k1.pb.now, fun j hj => by
    by_cases q : j = i
    · subst q
      rw [Pl.set_at]
      refine ⟨oh, fun x q => ?_, by show 1 ≤ 1152921504606846976; omega, hd ▸ o.lo, by have := o.hi; rw [hc, hd] at this; exact this⟩
      simp only [List.mem_singleton] at q
      subst q
      exact ⟨hm, by show 0 ≤ A; omega, by show A ≤ 1152922604118474752; omega⟩
    · rw [Pl.set_ne _ _ q]; exact k1.pb.c j hj⟩
  obtain ⟨a, c⟩ := h.turned (n := n) h1 h2 hx rfl ⟨j1.out, j2.out.ok, hpb⟩ j2.out
  exact ⟨rfl, a, c⟩
theorem PL.c19e {w0 w : World} {B : Nat} {l : List PE} (h : PL w0 w B l) (k : Nat) {b n : Nat} {p : Pl} (hx : l[k]? = some ⟨b, n, p⟩) {i e l' r : Int} (hb : i < 0 ∨ (n : Int) ≤ i ∨ ¬ MayT e l') : Calls Try.prog 19 #[.pointer (some ⟨b, 0, none⟩), .int .i64 i, .agg #[.int .i64 e, .int .i64 l', .int .i64 r]] w (VU w (.int .i64 240)) := by
  obtain ⟨Ls, h1, h2⟩ := h.pl
  obtain ⟨k1, k2, k3⟩ := h1 k _ hx
  have := t19e k1.pw (r := r) hb
  simp only at k2
  rw [k2] at this
  exact this
end Go.Proofs.Ytjklaemhfhakhaa
/- stretches: two lists are the same. -/
namespace Go.Proofs.Ytjklaemhfhakhaa
open Go.ChangeShapes Go.WideShapes Go.ChangeAt Go.RowKit

theorem fl4_cons (s : Sl) (D : List Sl) : fl4 (s :: D) = sL s ++ fl4 D := by
  unfold fl4
  rw [List.flatMap_cons]
theorem fl4_set : ∀ {D : List Sl} {i : Nat} (z : Sl), i < D.length → ((((fl4 D).set (i * 4) (.int .i64 z.t)).set (i * 4 + 1) (.int .i64 z.f)).set (i * 4 + 2) (.int .i64 z.e)).set (i * 4 + 3) (.bool z.l) = fl4 (D.set i z)
  | s :: D, 0, z, _ => by
    rw [List.set_cons_zero, fl4_cons, fl4_cons]
    rfl
  | s :: D, i + 1, z, h => by
    have ih := fl4_set (D := D) (i := i) z (by simpa using h)
    rw [List.set_cons_succ, fl4_cons, fl4_cons, ← ih]
    have e : ∀ k, (i + 1) * 4 + k = (i * 4 + k) + 4 := fun k => by omega
    have e0 : (i + 1) * 4 = i * 4 + 4 := by omega
    rw [e, e, e, e0]
    rfl
theorem SO.set {b : Nat} {w : World} {g n c : Nat} {D : List Sl} (h : SO b w (.slice (some ⟨g, 0, none⟩) n c) D) {i : Nat} (hi : i < n) (z : Sl) :
    SO b ((((w.setCell ⟨g, i * 4, none⟩ (.int .i64 z.t)).setCell ⟨g, i * 4 + 1, none⟩ (.int .i64 z.f)).setCell ⟨g, i * 4 + 2, none⟩ (.int .i64 z.e)).setCell ⟨g, i * 4 + 3, none⟩ (.bool z.l)) (.slice (some ⟨g, 0, none⟩) n c) (D.set i z) := by
  have hl := SO.len h
  unfold SO at *
  rw [List.length_set, ← fl4_set z (by omega), hl]
  rw [hl] at h
  exact ((((h.stored (i * 4) _).1.stored (i * 4 + 1) _).1.stored (i * 4 + 2) _).1.stored (i * 4 + 3) _).1
theorem SO.getS {b : Nat} {w : World} {g n c : Nat} {D : List Sl} (h : SO b w (.slice (some ⟨g, 0, none⟩) n c) D) {i : Nat} {s : Sl} (hi : D[i]? = some s) : i < n ∧ g < w.heap.size ∧ SlAt w g (i * 4) s := by
  have hl := SO.len h
  have hlt : i < D.length := by
    rcases Nat.lt_or_ge i D.length with q | q
    · exact q
    · rw [List.getElem?_eq_none q] at hi; cases hi
  obtain ⟨g', e, _, h1, h2⟩ := h.sl (by omega)
  simp only [Option.some.injEq, Addr.mk.injEq] at e
  obtain ⟨rfl, _⟩ := e
  have := h2 i (by omega)
  rw [List.getD_eq_getElem?_getD, hi] at this
  exact ⟨by omega, h1, this⟩
/-- What stretches has left, of two lists that are the same. -/
def StrR (w : World) (r : Option Nat) (e : Ending) (w' : World) : Prop := e = .returned (.bool true) ∧ Hid (Kp (fun k => some k ≠ r) w w')
set_option maxRecDepth 200000 in
set_option maxHeartbeats 8000000 in
theorem t22 {w : World} {b1 b2 : Nat} {p1 p2 : Option Addr} {n c1 c2 : Nat} {A : List Sl} (hA : SO b1 w (.slice p1 n c1) A) (hC : SO b2 w (.slice p2 n c2) A) (hne : ∀ r, (Value.slice p2 n c2).ownBlock = some r → some r ≠ (Value.slice p1 n c1).ownBlock) (hn : n ≤ 1000000) (hb : b1 ≤ w.heap.size) : Calls Try.prog 22 #[.slice p1 n c1, .slice p2 n c2] w (StrR w (Value.slice p1 n c1).ownBlock) := by
  have HA : Hid (SO b1 w (.slice p1 n c1) A) := hA
  have HC : Hid (SO b2 w (.slice p2 n c2) A) := hC
  have HNE : Hid (∀ r, (Value.slice p2 n c2).ownBlock = some r → some r ≠ (Value.slice p1 n c1).ownBlock) := hne
  have HLA : Hid (A.length = n) := SO.len hA
  have HBB : Hid (b1 ≤ w.heap.size) := hb
  clear hA hC hne hb
  go_enter Try.func22, Try.ntmps22
  go_wp2_with fail
  go_loopw [5] (fun v5 wr => ∃ (i : Nat) (D : List Sl), i ≤ n ∧ v5 = .int .i64 i ∧ Hid (SO b1 wr (.slice p1 n c1) D) ∧ Hid (∀ j, i ≤ j → D[j]? = A[j]?) ∧ Hid (Kp (fun k => some k ≠ (Value.slice p1 n c1).ownBlock) w wr)) (fun v5 _ => n - (intOf v5).toNat)
  case atStart => exact ⟨0, A, by omega, rfl, HA, fun _ _ => rfl, Kp.refl _ _⟩
  case round =>
    obtain ⟨i, D, hi, rfl, HD, HDA, HK⟩ := hrel
    rename World => wr
    have y0 : (0 : Int) ≤ (i : Int) := by omega
    by_cases hin : i < n
    · have b0 : (i : Int) < (n : Int) := by omega
      have HCr : Hid (SO b2 wr (.slice p2 n c2) A) := HC.out.kp HK.out HNE.out
      obtain ⟨s, hs⟩ : ∃ s, A[i]? = some s := ⟨_, List.getElem?_eq_getElem (by rw [HLA.out]; exact hin)⟩
      have hd : D[i]? = some s := (HDA.out i (Nat.le_refl _)).trans hs
      obtain ⟨g1, hp1, hg1, -⟩ := HD.out.sl (by omega)
      obtain ⟨g2, hp2, -, -⟩ := HCr.out.sl (by omega)
      subst hp1
      subst hp2
      obtain ⟨-, l1, x0, x1, x2, x3⟩ := HD.out.getS hd
      obtain ⟨-, l2, z0, z1, z2, z3⟩ := HCr.out.getS hs
      have f0 := HD.out.frz (i * 4)
      have f1 := HD.out.frz (i * 4 + 1)
      have f2 := HD.out.frz (i * 4 + 2)
      have f3 := HD.out.frz (i * 4 + 3)
      have HS : Hid (A[i]? = some s) := hs
      clear hs hd
      obtain ⟨s1, s2, s3, s4⟩ := s
      simp only at x0 x1 x2 x3 z0 z1 z2 z3
      go_wp2_with fail
      go_region
      go_wp2_with fail
      go_roundw
      case rel => exact ⟨i + 1, D.set i ⟨-9, 0, 0, false⟩, by omega, by go_num, (HD.out.up (Up.drew _)).set (z := ⟨-9, 0, 0, false⟩) hin, fun j hj => by
        rw [List.getElem?_set_ne (by omega)]
        exact HDA.out j (by omega), ((((HK.out.drewN 1).setCell (fun q => q rfl) _).setCell (fun q => q rfl) _).setCell (fun q => q rfl) _).setCell (fun q => q rfl) _⟩
      case measure => simp [intOf]; omega
    · have b0 : ¬ (i : Int) < (n : Int) := by omega
      obtain rfl : i = n := by omega
      go_wp2_with fail
      go_loopw [0, 6] (fun v0 v6 w2 => ∃ (k : Nat) (p' : Option Addr) (c' : Nat) (D' : List Sl), k ≤ 9 ∧ v6 = .int .i64 k ∧ v0 = .slice p' (i + k) c' ∧ Hid (SO b1 w2 (.slice p' (i + k) c') D') ∧ Hid (Kp (fun k => some k ≠ (Value.slice p1 i c1).ownBlock) w w2) ∧ Hid (∀ r, (Value.slice p' (i + k) c').ownBlock = some r → some r = (Value.slice p1 i c1).ownBlock ∨ w.heap.size ≤ r)) (fun _ v6 _ => 9 - (intOf v6).toNat)
      case atStart => exact ⟨0, p1, c1, D, by omega, rfl, rfl, HD, HK, fun r hr => Or.inl hr.symm⟩
      case round =>
        obtain ⟨k, p', c', D', hk, rfl, rfl, HD2, HK2, HO2⟩ := hrel
        rename World => w2
        have y1 : (0 : Int) ≤ (k : Int) := by omega
        by_cases hk9 : k < 9
        · have b1 : (k : Int) < 9 := by omega
          have hbw := Nat.le_trans HBB.out HK2.out.size
          go_wp2_with (at_builtin; (with_reducible refine wpList_push (z := ⟨-8, 0, 0, false⟩) rfl _ _ rfl p' (i + k) c' D' rfl rfl HD2.out hbw (by omega) ?_); intro q' d' w5 HS5 HG5 HB5)
          go_roundw
          case rel => exact ⟨k + 1, q', d', D' ++ [⟨-8, 0, 0, false⟩], by omega, by go_num, rfl, HS5, (HK2.out.alloc _).two (Kp.grown HG5.out) (fun b hb hl e => by
            rcases HO2.out b e.symm with q | q
            · exact hb q
            · omega), fun r hr => by
            rcases HB5.out with q | q
            · exact HO2.out r (q ▸ hr)
            · have e : r = _ := Option.some.inj (hr.symm.trans q)
              refine Or.inr ?_
              rw [e]
              exact Nat.le_trans HK2.out.size (Up.alloc w2 _).size⟩
          case measure => simp [intOf]; omega
        · have b1 : ¬ (k : Int) < 9 := by omega
          obtain rfl : k = 9 := by omega
          go_wp2_with fail
          go_ret
          exact ⟨rfl, HK2⟩
end Go.Proofs.Ytjklaemhfhakhaa

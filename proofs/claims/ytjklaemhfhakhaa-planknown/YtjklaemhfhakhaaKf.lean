/- Several plans beside each other. -/
import Derived.Test.YtjklaemhfhakhaaKd
import Derived.Test.YtjklaemhfhakhaaHd
namespace Go.Proofs.Ytjklaemhfhakhaa
open Go.ChangeShapes Go.WideShapes Go.ChangeAt Go.RowKit

/-- A plan: where it lies, how many tasks, what it has become. -/
structure PE where
  b : Nat
  n : Nat
  p : Pl
/-- Blocks that no plan has. -/
def Fa (w0 : World) (B : Nat) (b : Nat) : Prop := ¬ (w0.heap.size ≤ b ∧ b < B)
/-- Plans beside each other; what they have lies from where w0 ends up to B. -/
structure PL (w0 w : World) (B : Nat) (l : List PE) : Prop where
  up : Up w0 w
  lo : w0.heap.size ≤ B
  hi : B ≤ w.heap.size
  pl : ∃ Ls : Nat → Ly, (∀ i x, l[i]? = some x → PU w (Ls i) x.n x.p ∧ (Ls i).bp = x.b ∧ ∀ g, (Ls i).Own x.n g → w0.heap.size ≤ g ∧ g < B) ∧ ∀ i j x y, l[i]? = some x → l[j]? = some y → i ≠ j → ∀ g, (Ls i).Own x.n g → ¬ (Ls j).Own y.n g
theorem PU.up {w w' : World} {L : Ly} {n : Nat} {p : Pl} (h : PU w L n p) (hu : Up w w') : PU w' L n p := ⟨h.pw.up hu, h.ok, h.pb⟩
theorem PU.kp {F : Nat → Prop} {w w' : World} {L : Ly} {n : Nat} {p : Pl} (h : PU w L n p) (hk : Kp F w w') (hF : ∀ k, L.Own n k → F k) : PU w' L n p := ⟨h.pw.kp hk hF, h.ok, h.pb⟩
theorem PL.start (w : World) : PL w w w.heap.size [] := ⟨Up.refl w, Nat.le_refl _, Nat.le_refl _, fun _ => ⟨0, 0, fun _ => 0, fun _ => 0, fun _ => 0⟩, fun i x h => by simp at h, fun i j x y h => by simp at h⟩
theorem Kp.upon {w w' w0 : World} {B : Nat} (h : Up w0 w) (hB : w0.heap.size ≤ B) (hk : Kp (fun b => b < B) w w') : Up w0 w' :=
  ⟨hk.os.trans h.os, hk.tape.trans h.tape, hk.output.trans h.output, Nat.le_trans h.size hk.size, fun k hl => (hk.block k (by show k < B; omega) (Nat.lt_of_lt_of_le hl h.size)).trans (h.block k hl)⟩
/-- What is turned lies behind all plans. -/
theorem PL.kp {w0 w w' : World} {B : Nat} {l : List PE} (h : PL w0 w B l) (hk : Kp (fun b => b < B) w w') : PL w0 w' B l := by
  obtain ⟨Ls, h1, h2⟩ := h.pl
  refine ⟨Kp.upon h.up h.lo hk, h.lo, Nat.le_trans h.hi hk.size, Ls, fun i x hx => ?_, h2⟩
  obtain ⟨k1, k2, k3⟩ := h1 i x hx
  exact ⟨k1.kp hk (fun k q => (k3 k q).2), k2, k3⟩
theorem PL.upw {w0 w w' : World} {B : Nat} {l : List PE} (h : PL w0 w B l) (hu : Up w w') : PL w0 w' B l := h.kp (Kp.of_up hu)
theorem PL.add {w0 w w' : World} {B : Nat} {l : List PE} (h : PL w0 w B l) {L : Ly} {n : Nat} {p : Pl} (hp : PU w' L n p) (hu : Up w w') (ho : ∀ b, L.Own n b → w.heap.size ≤ b) : PL w0 w' w'.heap.size (l ++ [⟨L.bp, n, p⟩]) := by
  obtain ⟨Ls, h1, h2⟩ := h.pl
  have e : ∀ i x, (l ++ [⟨L.bp, n, p⟩])[i]? = some x → (l[i]? = some x ∧ i < l.length) ∨ (i = l.length ∧ x = ⟨L.bp, n, p⟩) := fun i x hx => by
    rcases Nat.lt_or_ge i l.length with q | q
    · rw [List.getElem?_append_left q] at hx
      exact Or.inl ⟨hx, q⟩
    · rw [List.getElem?_append_right q] at hx
      have : i - l.length = 0 := by
        rcases Nat.eq_zero_or_pos (i - l.length) with z | z
        · exact z
        · rw [List.getElem?_eq_none (by simp; omega)] at hx; cases hx
      rw [this] at hx
      simp only [List.getElem?_cons_zero, Option.some.injEq] at hx
      exact Or.inr ⟨by omega, hx.symm⟩
  have hB : B ≤ w'.heap.size := Nat.le_trans h.hi hu.size
  refine ⟨h.up.trans hu, Nat.le_trans h.lo hB, Nat.le_refl _, fun i => if i = l.length then L else Ls i, fun i x hx => ?_, fun i j x y hx hy hij g hg => ?_⟩
  · rcases e i x hx with ⟨q1, q2⟩ | ⟨rfl, rfl⟩
    · obtain ⟨k1, k2, k3⟩ := h1 i x q1
      simp only [if_neg (show i ≠ l.length by omega)]
      exact ⟨k1.up hu, k2, fun g hg => ⟨(k3 g hg).1, Nat.lt_of_lt_of_le (k3 g hg).2 hB⟩⟩
    · simp only [if_pos]
      exact ⟨hp, trivial, fun g hg => ⟨Nat.le_trans h.up.size (ho g hg), hp.pw.own_lt hg⟩⟩
  · rcases e i x hx with ⟨q1, q2⟩ | ⟨rfl, rfl⟩
    · simp only [if_neg (show i ≠ l.length by omega)] at hg
      rcases e j y hy with ⟨q3, q4⟩ | ⟨rfl, rfl⟩
      · simp only [if_neg (show j ≠ l.length by omega)]
        exact h2 i j x y q1 q3 hij g hg
      · simp only [if_pos]
        intro q
        have a := ho g q
        have b := ((h1 i x q1).2.2 g hg).2
        have c := h.hi
        omega
    · simp only [if_pos] at hg
      rcases e j y hy with ⟨q3, q4⟩ | ⟨rfl, rfl⟩
      · simp only [if_neg (show j ≠ l.length by omega)]
        intro q
        have a := ho g hg
        have b := ((h1 j y q3).2.2 g q).2
        have c := h.hi
        omega
      · exact absurd rfl hij
theorem set_cases {l : List PE} {k i : Nat} {x y : PE} (h : (l.set k y)[i]? = some x) : (i = k ∧ x = y) ∨ (i ≠ k ∧ l[i]? = some x) := by
  by_cases q : i = k
  · subst q
    rw [List.getElem?_set_self'] at h
    cases e : l[i]? with
    | none => rw [e] at h; simp at h
    | some z => rw [e] at h; simp at h; exact Or.inl ⟨rfl, h.symm⟩
  · rw [List.getElem?_set_ne (fun e => q e.symm)] at h
    exact Or.inr ⟨q, h⟩
/-- One of them has been turned. -/
theorem PL.turned {w0 w w' : World} {B : Nat} {l : List PE} {k n : Nat} {p' : Pl} {Ls : Nat → Ly} {x : PE} (h : PL w0 w B l) (h1 : ∀ i x, l[i]? = some x → PU w (Ls i) x.n x.p ∧ (Ls i).bp = x.b ∧ ∀ g, (Ls i).Own x.n g → w0.heap.size ≤ g ∧ g < B) (h2 : ∀ i j x y, l[i]? = some x → l[j]? = some y → i ≠ j → ∀ g, (Ls i).Own x.n g → ¬ (Ls j).Own y.n g)
    (hx : l[k]? = some x) (hn : x.n = n) {L' : Ly} (hp : PU w' L' n p') (hk : KeptG n w w' (Ls k) L') : PL w0 w' w'.heap.size (l.set k ⟨x.b, n, p'⟩) ∧ Kp (Fa w0 B) w w' := by
  subst hn
  obtain ⟨k1, k2, k3⟩ := h1 k x hx
  have hkp : Kp (Fa w0 B) w w' := hk.kp.mono fun b _ hb hq => hb (k3 b hq)
  have hB : B ≤ w'.heap.size := Nat.le_trans h.hi hk.kp.size
  have hup : Up w0 w' := ⟨hkp.os.trans h.up.os, hkp.tape.trans h.up.tape, hkp.output.trans h.up.output, Nat.le_trans h.up.size hkp.size, fun b hl => (hkp.block b (fun q => by omega) (Nat.lt_of_lt_of_le hl h.up.size)).trans (h.up.block b hl)⟩
  refine ⟨⟨hup, Nat.le_trans h.lo hB, Nat.le_refl _, fun i => if i = k then L' else Ls i, fun i y hy => ?_, fun i j y z hy hz hij g hg => ?_⟩, hkp⟩
  · rcases set_cases hy with ⟨rfl, rfl⟩ | ⟨q1, q2⟩
    · simp only [if_pos]
      refine ⟨hp, hk.bp.trans k2, fun g hg => ⟨?_, hp.pw.own_lt hg⟩⟩
      rcases hk.own g hg with q | q
      · exact (k3 g q).1
      · exact Nat.le_trans h.up.size q
    · simp only [if_neg q1]
      obtain ⟨j1, j2, j3⟩ := h1 i y q2
      exact ⟨j1.kp hk.kp (fun g hg => h2 i k y x q2 hx q1 g hg), j2, fun g hg => ⟨(j3 g hg).1, Nat.lt_of_lt_of_le (j3 g hg).2 hB⟩⟩
  · rcases set_cases hy with ⟨rfl, rfl⟩ | ⟨q1, q2⟩
    · simp only [if_pos] at hg
      rcases set_cases hz with ⟨rfl, rfl⟩ | ⟨q3, q4⟩
      · exact absurd rfl hij
      · simp only [if_neg q3]
        intro q
        rcases hk.own g hg with a | a
        · exact h2 i j x z hx q4 hij g a q
        · have b := ((h1 j z q4).2.2 g q).2
          have c := h.hi
          omega
    · simp only [if_neg q1] at hg
      rcases set_cases hz with ⟨rfl, rfl⟩ | ⟨q3, q4⟩
      · simp only [if_pos]
        intro q
        rcases hk.own g q with a | a
        · exact h2 i j y x q2 hx hij g hg a
        · have b := ((h1 i y q2).2.2 g hg).2
          have c := h.hi
          omega
      · simp only [if_neg q3]
        exact h2 i j y z q2 q4 hij g hg
/-- .. and has no block more. -/
theorem PL.turned0 {w0 w w' : World} {B : Nat} {l : List PE} {k n : Nat} {p' : Pl} {Ls : Nat → Ly} {x : PE} (h : PL w0 w B l) (h1 : ∀ i x, l[i]? = some x → PU w (Ls i) x.n x.p ∧ (Ls i).bp = x.b ∧ ∀ g, (Ls i).Own x.n g → w0.heap.size ≤ g ∧ g < B) (h2 : ∀ i j x y, l[i]? = some x → l[j]? = some y → i ≠ j → ∀ g, (Ls i).Own x.n g → ¬ (Ls j).Own y.n g)
    (hx : l[k]? = some x) (hn : x.n = n) {L' : Ly} (hp : PU w' L' n p') (hk : Kept n w w' (Ls k) L') : PL w0 w' B (l.set k ⟨x.b, n, p'⟩) ∧ Kp (Fa w0 B) w w' := by
  subst hn
  obtain ⟨k1, k2, k3⟩ := h1 k x hx
  have hkp : Kp (Fa w0 B) w w' := hk.kp.mono fun b _ hb hq => hb (k3 b hq)
  have hB : B ≤ w'.heap.size := Nat.le_trans h.hi hk.kp.size
  have hup : Up w0 w' := ⟨hkp.os.trans h.up.os, hkp.tape.trans h.up.tape, hkp.output.trans h.up.output, Nat.le_trans h.up.size hkp.size, fun b hl => (hkp.block b (fun q => by omega) (Nat.lt_of_lt_of_le hl h.up.size)).trans (h.up.block b hl)⟩
  refine ⟨⟨hup, h.lo, hB, fun i => if i = k then L' else Ls i, fun i y hy => ?_, fun i j y z hy hz hij g hg => ?_⟩, hkp⟩
  · rcases set_cases hy with ⟨rfl, rfl⟩ | ⟨q1, q2⟩
    · simp only [if_pos]
      exact ⟨hp, hk.bp.trans k2, fun g hg => k3 g (hk.own g hg)⟩
    · simp only [if_neg q1]
      obtain ⟨j1, j2, j3⟩ := h1 i y q2
      exact ⟨j1.kp hk.kp (fun g hg => h2 i k y x q2 hx q1 g hg), j2, j3⟩
  · rcases set_cases hy with ⟨rfl, rfl⟩ | ⟨q1, q2⟩
    · simp only [if_pos] at hg
      rcases set_cases hz with ⟨rfl, rfl⟩ | ⟨q3, q4⟩
      · exact absurd rfl hij
      · simp only [if_neg q3]
        exact h2 i j x z hx q4 hij g (hk.own g hg)
    · simp only [if_neg q1] at hg
      rcases set_cases hz with ⟨rfl, rfl⟩ | ⟨q3, q4⟩
      · simp only [if_pos]
        exact fun q => h2 i j y x q2 hx hij g hg (hk.own g q)
      · simp only [if_neg q3]
        exact h2 i j y z q2 q4 hij g hg
theorem SO.keep {w0 w w' : World} {B b : Nat} {v : Value} {D : List Sl} (h : SO b w v D) (hb : B ≤ b) (hk : Kp (Fa w0 B) w w') : SO b w' v D := h.kp hk fun r hr q => by
  have := (World.ownsRow.lt h r hr).1
  omega
theorem SlAt.keep {w0 w w' : World} {B g o : Nat} {s : Sl} (h : SlAt w g o s) (hb : B ≤ g) (hk : Kp (Fa w0 B) w w') : SlAt w' g o s := h.kp hk (fun q => by omega)

/-- The calls. -/
theorem PL.c10 {w0 w : World} {B : Nat} {l : List PE} (h : PL w0 w B l) {q : Option Addr} {n cap : Nat} {T : Nat → Tk} (hT : TL w q n cap T) (hn : n ≤ 256) (hm : ∀ i, i < n → MayT (T i).e (T i).l) :
    Calls Try.prog 10 #[.slice q n cap] w (fun e w' => ∃ b, e = .returned (.tuple #[.pointer (some ⟨b, 0, none⟩), .int .i64 0]) ∧ Hid (PL w0 w' w'.heap.size (l ++ [⟨b, n, newP T⟩])) ∧ Hid (Up w w')) := by
  refine (t10 hT hn).mono ?_
  rintro e w' (⟨_, L, h1, h2, h3, h4, h5⟩ | ⟨h1, _⟩)
  · exact ⟨L.bp, h1, h.add ⟨h2.out, h3.out, PB.newP hm⟩ h5.out h4.out, h5⟩
  · exact absurd hm h1
theorem PL.c17 {w0 w : World} {B : Nat} {l : List PE} (h : PL w0 w B l) (k : Nat) {b n : Nat} {p : Pl} (hx : l[k]? = some ⟨b, n, p⟩) (hn : n ≤ 256) (h0 : 0 < n) (ht : nextE n p ≤ 1152921504606846976) :
    Calls Try.prog 17 #[.pointer (some ⟨b, 0, none⟩)] w (fun e w' => e = .returned (.tuple #[(nextP n p).1.val, .int .i64 0]) ∧ Hid (PL w0 w' B (l.set k ⟨b, n, (nextP n p).2⟩)) ∧ Hid (Kp (Fa w0 B) w w')) := by
  obtain ⟨Ls, h1, h2⟩ := h.pl
  obtain ⟨k1, k2, k3⟩ := h1 k _ hx
  obtain ⟨q1, q2⟩ := t17k k1.pw k1.ok k1.pb hn h0 ht
  simp only at k2
  rw [k2] at q1
  refine q1.mono ?_
  rintro e w' ⟨rfl, L', j1, j2⟩
  obtain ⟨a, c⟩ := h.turned0 (n := n) h1 h2 hx rfl ⟨j1.out, j2.out.ok, q2⟩ j2.out
  exact ⟨rfl, a, c⟩
theorem PL.c18 {w0 w : World} {B : Nat} {l : List PE} (h : PL w0 w B l) (k : Nat) {b n : Nat} {p : Pl} (hx : l[k]? = some ⟨b, n, p⟩) (hn : n ≤ 256) (t0 t : Int) (hlo : -9223372036854775808 ≤ t0) (ht : min t0 1152921504606846976 = t) {D : List Sl} {p' : Pl} (hu : untilN n t 65536 p = (D, p')) :
    Calls Try.prog 18 #[.pointer (some ⟨b, 0, none⟩), .int .i64 t0] w (fun e w' => ∃ q c, e = .returned (.slice q D.length c) ∧ Hid (SO w.heap.size w' (.slice q D.length c) D) ∧ Hid (PL w0 w' B (l.set k ⟨b, n, p'⟩)) ∧ Hid (Kp (Fa w0 B) w w')) := by
  obtain ⟨Ls, h1, h2⟩ := h.pl
  obtain ⟨k1, k2, k3⟩ := h1 k _ hx
  have q1 := t18 k1.pw k1.ok k1.pb hn t0 hlo
  simp only at k2
  rw [k2, ht] at q1
  refine q1.mono ?_
  rintro e w' ⟨pp, c, L', j1, j2, j3, j4, j5⟩
  rw [hu] at j1 j2 j3 j4
  obtain ⟨a, d⟩ := h.turned0 (n := n) h1 h2 hx rfl ⟨j3.out, j5.out.ok, j4.out⟩ j5.out
  exact ⟨pp, c, j1, j2, a, d⟩
theorem PL.c15 {w0 w : World} {B : Nat} {l : List PE} (h : PL w0 w B l) (k : Nat) {b n : Nat} {p : Pl} (hx : l[k]? = some ⟨b, n, p⟩) : Calls Try.prog 15 #[.pointer (some ⟨b, 0, none⟩)] w (fun e w' => e = .returned (.int .i64 p.now) ∧ w' = w) := by
  obtain ⟨Ls, h1, h2⟩ := h.pl
  obtain ⟨k1, k2, k3⟩ := h1 k _ hx
  have := t15 k1.pw
  simp only at k2
  rw [k2] at this
  exact this
theorem PL.c13 {w0 w : World} {B : Nat} {l : List PE} (h : PL w0 w B l) (k : Nat) {b n : Nat} {p : Pl} (hx : l[k]? = some ⟨b, n, p⟩) (hn : n ≤ 256) (E L' : Nat → Nat) (hE : ∀ i, i < n → ((E i : Nat) : Int) = (p.c i).last.e ∧ ((L' i : Nat) : Int) = (p.c i).last.l ∧ 1 ≤ E i ∧ E i ≤ 1099511627776 ∧ L' i ≤ 1099511627776) : Calls Try.prog 13 #[.pointer (some ⟨b, 0, none⟩)] w (VU w (loadV (loadN E L' n))) := by
  obtain ⟨Ls, h1, h2⟩ := h.pl
  obtain ⟨k1, k2, k3⟩ := h1 k _ hx
  have := t13 k1.pw k1.pb E L' hE hn
  simp only at k2
  rw [k2] at this
  exact this
/-- Set of a task that is not released yet, the only one of its kind. -/
theorem PL.c19a {w0 w : World} {B : Nat} {l : List PE} (h : PL w0 w B l) (k : Nat) {b n : Nat} {p : Pl} (hx : l[k]? = some ⟨b, n, p⟩) {i : Nat} (hi : i < n) (ht : (p.c i).tl = []) (hnow : p.now < (p.c i).hd.nx) {e l' r : Int} (hm : MayT e l') (hd : (p.c i).done < l') :
    Calls Try.prog 19 #[.pointer (some ⟨b, 0, none⟩), .int .i64 i, .agg #[.int .i64 e, .int .i64 l', .int .i64 r]] w (fun en w' => en = .returned (.int .i64 0) ∧ Hid (PL w0 w' B (l.set k ⟨b, n, p.set i ⟨⟨(p.c i).hd.nx, e, l', r⟩, [], (p.c i).done⟩⟩)) ∧ Hid (Kp (Fa w0 B) w w')) := by
  obtain ⟨Ls, h1, h2⟩ := h.pl
  obtain ⟨k1, k2, k3⟩ := h1 k _ hx
  have q1 := t19a k1.pw k1.ok hi ht hnow (r := r) hm
  simp only at k2
  rw [k2] at q1
  refine q1.mono ?_
  rintro en w' ⟨rfl, L', j1, j2⟩
  have o := k1.pb.c i hi
  have hpb : PB n (p.set i ⟨⟨(p.c i).hd.nx, e, l', r⟩, [], (p.c i).done⟩) := ⟨k1.pb.now, fun j hj => by
    by_cases q : j = i
    · subst q
      rw [Pl.set_at]
      exact ⟨⟨hm, o.hd.lo, o.hd.hi⟩, fun x q => (List.not_mem_nil q).elim, by show 0 ≤ 1152921504606846976; omega, o.lo, hd⟩
    · rw [Pl.set_ne _ _ q]; exact k1.pb.c j hj⟩
  obtain ⟨a, c⟩ := h.turned0 (n := n) h1 h2 hx rfl ⟨j1.out, j2.out.ok, hpb⟩ j2.out
  exact ⟨rfl, a, c⟩
/-- Set where what is released stays. -/
theorem PL.c19c {w0 w : World} {B : Nat} {l : List PE} (h : PL w0 w B l) (k : Nat) {b n : Nat} {p : Pl} (hx : l[k]? = some ⟨b, n, p⟩) {i : Nat} (hi : i < n) (ht : (p.c i).tl = []) {nx e0 l0 r0 dn : Int} (hc : (p.c i).hd = ⟨nx, e0, l0, r0⟩) (hd : (p.c i).done = dn) (hnow : nx ≤ p.now) {e l' r : Int} (hm : MayT e l') (hne : ¬ (e0 = e ∧ l0 = l' ∧ r0 = r)) {A : Int} (hA : aft nx e0 p.now = A) :
    Calls Try.prog 19 #[.pointer (some ⟨b, 0, none⟩), .int .i64 i, .agg #[.int .i64 e, .int .i64 l', .int .i64 r]] w (fun en w' => en = .returned (.int .i64 0) ∧ Hid (PL w0 w' w'.heap.size (l.set k ⟨b, n, p.set i ⟨⟨nx, e0, l0, r0⟩, [⟨A, e, l', r⟩], dn⟩⟩)) ∧ Hid (Kp (Fa w0 B) w w')) := by
  obtain ⟨Ls, h1, h2⟩ := h.pl
  obtain ⟨k1, k2, k3⟩ := h1 k _ hx
  have o := k1.pb.c i hi
  have hl : (p.c i).last = ⟨nx, e0, l0, r0⟩ := by
    rw [← hc]
    unfold Crs.last
    simp only [ht]
    rfl
  have oh := o.hd
  rw [hc] at oh
  obtain ⟨m1, m2, m3⟩ := oh.may
  have lo := oh.lo
  have nw := k1.pb.now
  simp only at m1 m2 m3 lo nw
  have q1 := t19c k1.pw k1.ok hi (by rw [ht]; show 0 ≤ 1000000; omega) (by rw [hl]; exact lo) (by rw [hl]; exact hnow) nw.2 (by rw [hl]; show 1 ≤ e0; omega) (by rw [hl]; exact m3) (r := r) hm (by rw [hl]; exact hne)
  have hmore : (p.c i).more ⟨A, e, l', r⟩ = ⟨⟨nx, e0, l0, r0⟩, [⟨A, e, l', r⟩], dn⟩ := by
    unfold Crs.more
    rw [ht, hc, hd]
    rfl
  simp only at k2
  rw [k2, hl, hA, hmore] at q1
  refine q1.mono ?_
  rintro en w' ⟨rfl, L', j1, j2⟩
  obtain ⟨b1, b2, b3, b4, b5⟩ := aft_bd hnow (show 1 ≤ e0 by omega)
  rw [hA] at b1 b2
  have hpb : PB n (p.set i ⟨⟨nx, e0, l0, r0⟩, [⟨A, e, l', r⟩], dn⟩) := ⟨k1.pb.now, fun j hj => by
    by_cases q : j = i
    · subst q
      rw [Pl.set_at]
      refine ⟨oh, fun x q => ?_, by show 1 ≤ 1152921504606846976; omega, hd ▸ o.lo, by have := o.hi; rw [hc, hd] at this; exact this⟩
      simp only [List.mem_singleton] at q
      subst q
      exact ⟨hm, by show 0 ≤ A; omega, by show A ≤ 1152922604118474752; omega⟩
    · rw [Pl.set_ne _ _ q]; exact k1.pb.c j hj⟩
  obtain ⟨a, c⟩ := h.turned (n := n) h1 h2 hx rfl ⟨j1.out, j2.out.ok, hpb⟩ j2.out
  exact ⟨rfl, a, c⟩
theorem PL.c19e {w0 w : World} {B : Nat} {l : List PE} (h : PL w0 w B l) (k : Nat) {b n : Nat} {p : Pl} (hx : l[k]? = some ⟨b, n, p⟩) {i e l' r : Int} (hb : i < 0 ∨ (n : Int) ≤ i ∨ ¬ MayT e l') : Calls Try.prog 19 #[.pointer (some ⟨b, 0, none⟩), .int .i64 i, .agg #[.int .i64 e, .int .i64 l', .int .i64 r]] w (VU w (.int .i64 240)) := by
  obtain ⟨Ls, h1, h2⟩ := h.pl
  obtain ⟨k1, k2, k3⟩ := h1 k _ hx
  have := t19e k1.pw (r := r) hb
  simp only at k2
  rw [k2] at this
  exact this
end Go.Proofs.Ytjklaemhfhakhaa

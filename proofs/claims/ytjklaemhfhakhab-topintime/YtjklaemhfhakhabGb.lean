/- A plan, its load. -/
import Derived.Test.YtjklaemhfhakhabMg
import Derived.Test.YtjklaemhfhakhabGa
import Derived.Test.YtjklaemhfhakhabXa
namespace Go.Proofs.Ytjklaemhfhakhab
open Go.ChangeShapes Go.WideShapes Go.ChangeAt Go.RowKit

/-- A stretch at a place of a row. -/
structure SlAt (w : World) (g o : Nat) (s : Sl) : Prop where
  c0 : w.cell? ⟨g, o, none⟩ = some (.int .i64 s.t)
  c1 : w.cell? ⟨g, o + 1, none⟩ = some (.int .i64 s.f)
  c2 : w.cell? ⟨g, o + 2, none⟩ = some (.int .i64 s.e)
  c3 : w.cell? ⟨g, o + 3, none⟩ = some (.bool s.l)
theorem SlAt.kp {w w' : World} {F : Nat → Prop} {g o : Nat} {s : Sl} (h : SlAt w g o s) (hk : Kp F w w') (hF : F g) : SlAt w' g o s := ⟨hk.cell hF h.c0, hk.cell hF h.c1, hk.cell hF h.c2, hk.cell hF h.c3⟩
theorem SlAt.up {w w' : World} {g o : Nat} {s : Sl} (h : SlAt w g o s) (hu : Up w w') : SlAt w' g o s := h.kp (F := fun _ => True) (Kp.of_up hu) trivial
theorem SO.sl {b : Nat} {w : World} {p : Option Addr} {n cap : Nat} {D : List Sl} (h : SO b w (.slice p n cap) D) (h0 : 0 < n) : ∃ g, p = some ⟨g, 0, none⟩ ∧ b ≤ g ∧ g < w.heap.size ∧ ∀ i, i < n → SlAt w g (i * 4) (D.getD i Sl.zero) := by
  have hl := h.len
  obtain ⟨g, e, h1, h2, _⟩ := h.at (i := 0) (by omega)
  refine ⟨g, e, h1, h2, fun i hi => ?_⟩
  obtain ⟨g', e', _, _, k⟩ := h.at (i := i) (by omega)
  rw [e] at e'
  simp only [Option.some.injEq, Addr.mk.injEq] at e'
  rw [← e'.1] at k
  exact ⟨k 0 _ (by omega) rfl, k 1 _ (by omega) rfl, k 2 _ (by omega) rfl, k 3 _ (by omega) rfl⟩
theorem Kept.upw {n : Nat} {w w1 w2 : World} {L L' : Ly} (h : Kept n w1 w2 L L') (hu : Up w w1) (hO : ∀ b, L.Own n b → w.heap.size ≤ b) : Up w w2 := by
  have k1 : Kp (fun b => b < w.heap.size) w w2 := ⟨h.kp.os.trans hu.os, h.kp.tape.trans hu.tape, h.kp.output.trans hu.output, Nat.le_trans hu.size h.kp.size, fun b hb hl => (h.kp.block b (fun q => by have := hO b q; omega) (Nat.lt_of_lt_of_le hl hu.size)).trans (hu.block b hl)⟩
  exact k1.up fun b hb => hb
/-- A plan, all that is known of it. -/
structure PU (w : World) (L : Ly) (n : Nat) (p : Pl) : Prop where
  pw : PW w L n p
  ok : L.Ok n
  pb : PB n p
theorem MayT.nat {e l : Int} (h : MayT e l) : ((e.toNat : Nat) : Int) = e ∧ ((l.toNat : Nat) : Int) = l ∧ 1 ≤ e.toNat ∧ e.toNat ≤ 1099511627776 ∧ l.toNat ≤ 1099511627776 := by
  obtain ⟨a, b, c⟩ := h
  omega
/-- Load of a plan that was made just now. -/
theorem load_new {w : World} {L : Ly} {n : Nat} {T : Nat → Tk} (h : PW w L n (newP T)) (hm : ∀ i, i < n → MayT (T i).e (T i).l) (hn : n ≤ 256) : Calls Try.prog 6 #[.pointer (some ⟨L.bp, 0, none⟩)] w (VU w (loadV (loadN (fun i => (T i).e.toNat) (fun i => (T i).l.toNat) n))) :=
  t6 h (PB.newP hm) _ _ (fun i hi => (hm i hi).nat) hn
theorem light_new {n : Nat} {T : Nat → Tk} (hm : ∀ i, i < n → MayT (T i).e (T i).l) {a d : Nat} (h : loadN (fun i => (T i).e.toNat) (fun i => (T i).l.toNat) n = some (a, d)) : 1 ≤ d ∧ (a ≤ d → Light n (fun i => (T i).e) (fun i => (T i).l)) ∧ (d < a → denQ (fun i => (T i).e) n < numQ (fun i => (T i).e) (fun i => (T i).l) n) := by
  have hE : ∀ i, i < n → 1 ≤ (T i).e.toNat := fun i hi => (hm i hi).nat.2.2.1
  obtain ⟨k1, k2⟩ := light_of hE h
  have e1 : ∀ k, k ≤ n → denQ (fun i => (((T i).e.toNat : Nat) : Int)) k = denQ (fun i => (T i).e) k := by
    intro k
    induction k with
    | zero => intro _; rfl
    | succ k ih =>
      intro hk
      show denQ _ k * (((T k).e.toNat : Nat) : Int) = denQ _ k * (T k).e
      rw [ih (by omega), (hm k (by omega)).nat.1]
  have e2 : ∀ k, k ≤ n → numQ (fun i => (((T i).e.toNat : Nat) : Int)) (fun i => (((T i).l.toNat : Nat) : Int)) k = numQ (fun i => (T i).e) (fun i => (T i).l) k := by
    intro k
    induction k with
    | zero => intro _; rfl
    | succ k ih =>
      intro hk
      show numQ _ _ k * (((T k).e.toNat : Nat) : Int) + (((T k).l.toNat : Nat) : Int) * denQ _ k = numQ _ _ k * (T k).e + (T k).l * denQ _ k
      rw [ih (by omega), e1 k (by omega), (hm k (by omega)).nat.1, (hm k (by omega)).nat.2.1]
  refine ⟨(loadN_frac n hE h).1, fun q => ?_, fun q => ?_⟩
  · have := k1 q
    unfold Light at *
    rw [e1 n (Nat.le_refl _), e2 n (Nat.le_refl _)] at this
    exact this
  · have := k2 q
    rw [e1 n (Nat.le_refl _), e2 n (Nat.le_refl _)] at this
    exact this
theorem t5m {w : World} {p : Option Addr} {n cap : Nat} {T : Nat → Tk} (h : TL w p n cap T) (hn : n ≤ 256) (hm : ∀ i, i < n → MayT (T i).e (T i).l) : Calls Try.prog 5 #[.slice p n cap] w (fun e w' => ∃ L, e = .returned (.tuple #[.pointer (some ⟨L.bp, 0, none⟩), .int .i64 0]) ∧ Hid (PU w' L n (newP T)) ∧ Hid (∀ b, L.Own n b → w.heap.size ≤ b) ∧ Hid (Up w w')) := by
  refine (t5 h hn).mono ?_
  rintro e w' (⟨_, L, h1, h2, h3, h4, h5⟩ | ⟨h1, _⟩)
  · exact ⟨L, h1, ⟨h2, h3, PB.newP hm⟩, h4, h5⟩
  · exact absurd hm h1
theorem until_len (n : Nat) (tick : Int) : ∀ k p, (untilN n tick k p).1.length ≤ k
  | 0, p => Nat.le_refl _
  | k + 1, p => by
    rw [untilN]
    split
    · split
      · exact Nat.zero_le _
      · have := until_len n tick k (p.go (runN p.J p.now n).1.task.toNat (min (endN p.J (runN p.J p.now n).1 ((runN p.J p.now n).2 + (runN p.J p.now n).1.left) n) tick - (runN p.J p.now n).2) (min (endN p.J (runN p.J p.now n).1 ((runN p.J p.now n).2 + (runN p.J p.now n).1.left) n) tick))
        simp only [List.length_cons]
        omega
    · exact Nat.zero_le _
theorem LS.mono {n : Nat} {E L R : Nat → Int} {M B B' : Int} {p : Pl} (h : LS n E L R M B p) (hB : B ≤ B') : LS n E L R M B' p := ⟨h.fits, h.feas, h.pb, h.most, Int.le_trans h.now hB⟩
end Go.Proofs.Ytjklaemhfhakhab

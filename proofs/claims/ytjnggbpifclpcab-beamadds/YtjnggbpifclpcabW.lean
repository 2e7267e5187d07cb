/- The halves of a row of samples. -/
import Derived.Test.YtjnggbpifclpcabV
import Derived.BigQuiet
namespace Go.Proofs.Ytjnggbpifclpcab
open Go.ChangeShapes Go.WideShapes Go.ChangeAt Go.RowKit Go.Fl Ieee
theorem isSome_set {w : World} {a b : Addr} {v : Value} (h : (w.cell? b).isSome = true) : ((w.setCell a v).cell? b).isSome = true := by
  obtain ⟨u, hu⟩ := Option.isSome_iff_exists.1 h
  by_cases e : a = b
  · subst e; rw [World.cell?_setCell_same' _ _ _ h]; rfl
  · rw [World.cell?_setCell_other _ _ _ _ e, hu]; rfl
attribute [local go_sem] run_store_float run_store_c isSome_set call20 call19 run_neg fold_eq fold_ne fold_lt fold_gt abs_eq

/-- The difference of two complex numbers: part by part. -/
theorem run_csub {P : Program} (t : TypeId) (a b c d : Nat) (w : World) :
    ∃ r i n, (binOp .sub t (.complex .f64 a b) (.complex .f64 c d)).run P w = .ok (.complex .f64 r i) (w.drewN n) ∧ ab r = bin .sub (ab a) (ab c) ∧ ab i = bin .sub (ab b) (ab d) := by
  obtain ⟨r, n, e1, h1⟩ := run_fl (P := P) .sub t a c w (by simp)
  obtain ⟨i, m, e2, h2⟩ := run_fl (P := P) .sub t b d (w.drewN n) (by simp)
  have f1 : (Op.floatArith .sub .f64 a c).run P w = .ok (.float .f64 r) (w.drewN n) := e1
  have f2 : (Op.floatArith .sub .f64 b d).run P (w.drewN n) = .ok (.float .f64 i) ((w.drewN n).drewN m) := e2
  refine ⟨r, i, n + m, ?_, h1, h2⟩
  rw [World.drewN_drewN] at f2
  simp [binOp, Op.complexOp, Op.Complex.arith, f1, f2]
theorem upon_csub {P : Program} {o : Oper} {a : Act} {next : Act → World → Prop} {Q : Exit → Act → World → Prop} {t : TypeId} {x y x' y' : Nat} {w : World}
    {F : Value → World → Result Next} (hk : ∀ r i n, Hid (ab r = bin .sub (ab x) (ab x')) → Hid (ab i = bin .sub (ab y) (ab y')) → o.upon P a next Q (F (.complex .f64 r i) (w.drewN n))) :
    o.upon P a next Q (((binOp .sub t (.complex .f64 x y) (.complex .f64 x' y')).run P w).andThen F) := by
  obtain ⟨r, i, n, e, h1, h2⟩ := run_csub (P := P) t x y x' y' w
  rw [e]
  exact hk r i n h1 h2

/-- Complex numbers, all NaN being one. -/
abbrev C2 := Option Nat × Option Nat
def mulC (a b : C2) : C2 := (mulR a.1 a.2 b.1 b.2, mulI a.1 a.2 b.1 b.2)
def addC (a b : C2) : C2 := (bin .add a.1 b.1, bin .add a.2 b.2)
def subC (a b : C2) : C2 := (bin .sub a.1 b.1, bin .sub a.2 b.2)
/-- The halves of 2^m samples; U tells the unit for j and the level's m. -/
def hv (U : Nat → Nat → C2) : Nat → (Nat → C2) → Nat → C2
  | 0, F, _ => F 0
  | m + 1, F, j =>
    if j < 2 ^ m then addC (hv U m (fun i => F (2 * i)) j) (mulC (hv U m (fun i => F (2 * i + 1)) j) (U j (m + 1)))
    else subC (hv U m (fun i => F (2 * i)) (j - 2 ^ m)) (mulC (hv U m (fun i => F (2 * i + 1)) (j - 2 ^ m)) (U (j - 2 ^ m) (m + 1)))
/-- The unit for j of 2^m, out of a row of points the whole turn of which has 2^M. -/
def uAt (fu : Nat → Nat × Nat) (M : Nat) (j m : Nat) : C2 := ab2 (fu (j * (2 ^ M / 2 ^ m)))
theorem uAt_lt {M m j : Nat} (hm : m + 1 ≤ M) (hj : j < 2 ^ m) : j * (2 ^ M / 2 ^ (m + 1)) < 2 ^ M / 2 := by
  obtain ⟨k, rfl⟩ := Nat.exists_eq_add_of_le hm
  have e1 : 2 ^ (m + 1 + k) / 2 ^ (m + 1) = 2 ^ k := by
    rw [Nat.pow_add 2 (m + 1) k, Nat.mul_div_cancel_left _ (Nat.pow_pos (by omega))]
  have e2 : 2 ^ (m + 1 + k) / 2 = 2 ^ m * 2 ^ k := by
    rw [show m + 1 + k = m + k + 1 by omega, Nat.pow_succ, Nat.mul_div_cancel _ (by omega), Nat.pow_add]
  rw [e1, e2]
  exact Nat.mul_lt_mul_of_pos_right hj (Nat.pow_pos (by omega))
/-- What halves leaves: the row's stretch from off on is told anew, all else in it is as it was. -/
def HR (b g D cap off n : Nat) (G : Nat → C2) (d : List (Nat × Nat)) (w : World) (e : Ending) (w' : World) : Prop :=
  ∃ d', e = .returned (.tuple #[]) ∧ Hid (CRow b w' (.slice (some ⟨g, 0, none⟩) D cap) d') ∧ Hid (But g w w') ∧ Hid ((∀ i, i < n → ab2 d'[off + i]! = G i) ∧ ∀ i, (i < off ∨ off + n ≤ i) → d'[i]! = d[i]!)
/-- The closure of units, away from a block. -/
def UnitsAt (g : Nat) (w : World) (bp bm q N S : Nat) (f : Nat → Nat × Nat) : Prop := bp ≠ g ∧ bm ≠ g ∧ q ≠ g ∧ w.cell? ⟨bp, 0, none⟩ = some (.slice (some ⟨q, 0, none⟩) N N) ∧ w.cell? ⟨bm, 0, none⟩ = some (.int .i64 S) ∧ RD w q 0 N f
theorem UnitsAt.but {g : Nat} {w w' : World} {bp bm q N S : Nat} {f : Nat → Nat × Nat} (h : UnitsAt g w bp bm q N S f) (hb : But g w w') : UnitsAt g w' bp bm q N S f := by
  obtain ⟨n1, n2, n3, h1, h2, h3⟩ := h
  exact ⟨n1, n2, n3, hb.cell n1 h1, hb.cell n2 h2, hb.rd n3 h3⟩
theorem UnitsAt.units {g : Nat} {w : World} {bp bm q N S : Nat} {f : Nat → Nat × Nat} (h : UnitsAt g w bp bm q N S f) : Units w #[.pointer (some ⟨bp, 0, none⟩), .pointer (some ⟨bm, 0, none⟩)] N S f := ⟨bp, bm, q, rfl, h.2.2.2⟩
theorem unit_at {g M m j n : Nat} {w w' : World} {bp bm q : Nat} {f : Nat → Nat × Nat} (h : Hid (UnitsAt g w bp bm q (2 ^ M / 2) (2 ^ M) f)) (hu : Up w w') (hm : m + 1 ≤ M) (hM : 2 ^ M ≤ 100000) (hj : j < 2 ^ m) (hn : Hid (n = 2 ^ (m + 1))) :
    Calls Try.prog 57 #[.int .i64 j, .int .i64 n, .pointer (some ⟨bp, 0, none⟩), .pointer (some ⟨bm, 0, none⟩)] w' (DR w' (uAt f M j (m + 1)).1 (uAt f M j (m + 1)).2) := by
  have e := hn.out
  subst e
  exact t57 (h.out.units.up hu) j _ _ _ (Nat.pow_pos (by omega)) rfl rfl (uAt_lt hm hj) (by omega) (by omega)
theorem CRow.but {b g D cap : Nat} {w w' : World} {d : List (Nat × Nat)} (h : CRow b w (.slice (some ⟨g, 0, none⟩) D cap) d) (hu : Up w w') : CRow b w' (.slice (some ⟨g, 0, none⟩) D cap) d := h.up hu

theorem Up.drew (w : World) : Up w w.drew := Up.drewN w 1
/-- Where the halves are being joined: up to k they are. -/
def Join (off h k : Nat) (E O U : Nat → C2) (d0 d : List (Nat × Nat)) : Prop :=
  (∀ i, i < k → ab2 d[off + i]! = addC (E i) (mulC (O i) (U i)) ∧ ab2 d[off + h + i]! = subC (E i) (mulC (O i) (U i))) ∧ (∀ i, k ≤ i → i < h → ab2 d[off + i]! = E i ∧ ab2 d[off + h + i]! = O i) ∧ ∀ i, (i < off ∨ off + (h + h) ≤ i) → d[i]! = d0[i]!
theorem Join.step {off h k : Nat} {E O U : Nat → C2} {d0 d : List (Nat × Nat)} {p q : Nat × Nat} (H : Join off h k E O U d0 d) (hk : k < h) (hd : off + (h + h) ≤ d.length) (hp : ab2 p = addC (E k) (mulC (O k) (U k))) (hq : ab2 q = subC (E k) (mulC (O k) (U k))) :
    Join off h (k + 1) E O U d0 ((d.set (off + k) p).set (off + h + k) q) := by
  obtain ⟨h1, h2, h3⟩ := H
  have e : ∀ i, ((d.set (off + k) p).set (off + h + k) q)[i]! = if i = off + h + k then q else if i = off + k then p else d[i]! := fun i => by
    rw [set_at _ _ _ _ (by simp; omega), set_at _ _ _ _ (by omega)]
  refine ⟨fun i hi => ?_, fun i hi hi' => ?_, fun i hi => ?_⟩
  · rw [e, e]
    by_cases hik : i = k
    · subst hik
      rw [if_neg (by omega), if_pos rfl, if_pos rfl]
      exact ⟨hp, hq⟩
    · rw [if_neg (by omega), if_neg (by omega), if_neg (by omega), if_neg (by omega)]
      exact h1 i (by omega)
  · rw [e, e, if_neg (by omega), if_neg (by omega), if_neg (by omega), if_neg (by omega)]
    exact h2 i (by omega) hi'
  · rw [e, if_neg (by omega), if_neg (by omega)]
    exact h3 i hi
set_option maxHeartbeats 2000000 in
theorem t48 (M : Nat) (hM : 2 ^ M ≤ 100000) {b g D cap bp bm q : Nat} {fu : Nat → Nat × Nat} (m : Nat) (hm : m ≤ M) :
    ∀ (off c2 lg lo ln lc st n : Nat) (f : Nat → Nat × Nat) (F : Nat → C2) (d : List (Nat × Nat)) (w : World), n = 2 ^ m → off + n ≤ D → D ≤ 100000 → n ≤ c2 → lg ≠ g → ln ≤ 100000 → ln ≤ lc → (n - 1) * st < ln →
    RD w lg lo ln f → (∀ i, i < n → ab2 (f (i * st)) = F i) → CRow b w (.slice (some ⟨g, 0, none⟩) D cap) d → UnitsAt g w bp bm q (2 ^ M / 2) (2 ^ M) fu →
    Calls Try.prog 48 #[.slice (some ⟨g, off, none⟩) n c2, .slice (some ⟨lg, lo, none⟩) ln lc, .int .i64 st, .func (.func 57) #[] #[.pointer (some ⟨bp, 0, none⟩), .pointer (some ⟨bm, 0, none⟩)]] w
      (HR b g D cap off n (hv (uAt fu M) m F) d w) := by
  induction m with
  | zero =>
    intro off c2 lg lo ln lc st n f F d w hn ho hD hc hne hl0 hl1 hl hR hF hC hU
    simp only [Nat.pow_zero] at hn
    subst hn
    have h0 : 0 < ln := by omega
    have hd := hC.len
    obtain ⟨x, y, HX, hx⟩ : ∃ x y, Hid (f 0 = (x, y)) ∧ w.cell? ⟨lg, lo, none⟩ = some (.complex .f64 x y) := ⟨_, _, rfl, hR 0 h0⟩
    have hs : (w.cell? ⟨g, off, none⟩).isSome = true := by rw [hC.cell (by omega)]; rfl
    have hf := hC.frz off
    have HF : Hid (∀ i, i < 1 → ab2 (f (i * st)) = F i) := hF
    have HC : Hid (CRow b w (.slice (some ⟨g, 0, none⟩) D cap) d) := hC
    have HD : Hid (d.length = D) := hd
    clear hF hC hU hR hd
    go_enter Try.func48, Try.ntmps48
    go_wp2
    go_end0
    obtain ⟨r1, r2⟩ := CRow.put HC.out off x y
    refine ⟨_, rfl, r1, r2, fun i hi => ?_, fun i hi => ?_⟩
    · obtain rfl : i = 0 := by omega
      rw [set_at _ _ _ _ (by have := HD.out; omega), if_pos (by omega), hv, ← HF.out 0 (by omega), Nat.zero_mul, HX.out]
    · rw [set_at _ _ _ _ (by have := HD.out; omega), if_neg (by omega)]
  | succ m ih =>
    intro off c2 lg lo ln lc st n f F d w hn ho hD hc hne hl0 hl1 hl hR hF hC hU
    have ih := ih (by omega)
    obtain ⟨h, hh⟩ : ∃ h, 2 ^ m = h := ⟨_, rfl⟩
    have hp : 0 < h := by rw [← hh]; exact Nat.pow_pos (by omega)
    have en : n = h + h := by rw [hn, Nat.pow_succ, hh]; omega
    obtain ⟨s2, hs2⟩ : ∃ s2, 2 * st = s2 := ⟨_, rfl⟩
    have hmul : (n - 1) * st = (h - 1) * s2 + st := by
      rw [← hs2, en]
      obtain ⟨k, rfl⟩ : ∃ k, h = k + 1 := ⟨h - 1, by omega⟩
      rw [show k + 1 + (k + 1) - 1 = 2 * k + 1 by omega, show k + 1 - 1 = k by omega, Nat.add_mul, Nat.one_mul, ← Nat.mul_assoc, Nat.mul_comm k 2]
    have IHe : Hid (∀ w', Up w w' → ∀ cc, h ≤ cc → Calls Try.prog 48 #[.slice (some ⟨g, off, none⟩) h cc, .slice (some ⟨lg, lo, none⟩) ln lc, .int .i64 s2, .func (.func 57) #[] #[.pointer (some ⟨bp, 0, none⟩), .pointer (some ⟨bm, 0, none⟩)]] w' (HR b g D cap off h (hv (uAt fu M) m fun i => F (2 * i)) d w')) := by
      intro w' hu cc hcc
      refine ih off cc lg lo ln lc s2 h f (fun i => F (2 * i)) d w' hh.symm (by omega) hD hcc hne hl0 hl1 (by omega) (hR.up hu) (fun i hi => ?_) (hC.up hu) (hU.but (But.of_up hu))
      rw [← hF (2 * i) (by omega), ← hs2, ← Nat.mul_assoc, Nat.mul_comm i 2]
    have IHo : Hid (∀ w' d', But g w w' → CRow b w' (.slice (some ⟨g, 0, none⟩) D cap) d' → ∀ cc, h ≤ cc → Calls Try.prog 48 #[.slice (some ⟨g, off + h, none⟩) h cc, .slice (some ⟨lg, lo + st, none⟩) (ln - st) (lc - st), .int .i64 s2, .func (.func 57) #[] #[.pointer (some ⟨bp, 0, none⟩), .pointer (some ⟨bm, 0, none⟩)]] w' (HR b g D cap (off + h) h (hv (uAt fu M) m fun i => F (2 * i + 1)) d' w')) := by
      intro w' d' hb hC' cc hcc
      refine ih (off + h) cc lg (lo + st) (ln - st) (lc - st) s2 h (fun j => f (st + j)) (fun i => F (2 * i + 1)) d' w' hh.symm (by omega) hD hcc hne (by omega) (by omega) (by omega) ?_ (fun i hi => ?_) hC' (hU.but hb)
      · intro j hj
        have := hb.rd hne hR (st + j) (by omega)
        rw [← Nat.add_assoc] at this; exact this
      · rw [← hF (2 * i + 1) (by omega), ← hs2, Nat.add_mul, Nat.one_mul, ← Nat.mul_assoc, Nat.mul_comm i 2, Nat.add_comm st]
    have hst : st < ln := by omega
    have hd := hC.len
    have HC : Hid (CRow b w (.slice (some ⟨g, 0, none⟩) D cap) d) := hC
    have HU : Hid (UnitsAt g w bp bm q (2 ^ M / 2) (2 ^ M) fu) := hU
    have HN : Hid (n = 2 ^ (m + 1)) := hn
    have HH : Hid (2 ^ m = h) := hh
    clear hC hU hF hR ih hn hh hl hmul
    have q1 : (n : Int) / 2 = h := by omega
    have q6 : n / 2 = h := by omega
    have EN : Hid (n = h + h) := en
    have q2 : IntKind.i64.wrap (h : Int) = h := i64_id (by omega)
    have q3 : (2 : Int) * (st : Int) = s2 := by omega
    have q4 : IntKind.i64.wrap (s2 : Int) = s2 := i64_id (by omega)
    have q5 : n - h = h := by omega
    have n1 : ((n : Int) == 1) = false := by rw [beq_eq_false_iff_ne]; omega
    have n2 : ¬ n = 1 := by omega
    have z1 : (h : Int) ≤ (n : Int) := by omega
    have z2 : (n : Int) ≤ (c2 : Int) := by omega
    have z3 : (st : Int) ≤ (ln : Int) := by omega
    have z4 : (ln : Int) ≤ (lc : Int) := by omega
    have z5 : (h : Int) ≤ (c2 : Int) := by omega
    have z6 : (0 : Int) ≤ (h : Int) := by omega
    have z7 : (0 : Int) ≤ (st : Int) := by omega
    have z8 : h ≤ c2 := by omega
    have z9 : h ≤ n := by omega
    clear hs2 en
    go_enter Try.func48, Try.ntmps48
    go_wp2_with fail
    go_quiet (fail)
    go_wp2_with (first
      | (go_at_call 48; (with_reducible refine (IHe.out _ (Up.drewN _ _) _ z8).mono ?_); rintro e w1 ⟨d1, rfl, HC1, HB1, HE1⟩; have HC2 : Hid (CRow b w1 (.slice (some ⟨g, 0, none⟩) D cap) d1 ∧ But g w w1) := ⟨HC1.out, (But.of_up (Up.drewN _ _)).trans HB1.out⟩; clear HC1 HB1)
      | (go_at_call 48; (with_reducible refine (IHo.out _ _ HC2.out.2 HC2.out.1 _ (by omega)).mono ?_); rintro e w2 ⟨d2, rfl, HC3, HB3, HE3⟩))
    have HJ : Hid (Join off h 0 (hv (uAt fu M) m fun i => F (2 * i)) (hv (uAt fu M) m fun i => F (2 * i + 1)) (fun i => uAt fu M i (m + 1)) d d2) := by
      refine ⟨fun i hi => by omega, fun i _ hi => ⟨?_, HE3.out.1 i hi⟩, fun i hi => ?_⟩
      · rw [HE3.out.2 _ (by omega)]; exact HE1.out.1 i hi
      · rw [HE3.out.2 _ (by omega)]; exact HE1.out.2 i (by omega)
    have HB : Hid (But g w w2) := HC2.out.2.trans HB3.out
    clear HE1 HE3 HB3 HC2 IHe IHo
    go_loopw [11, 12, 13, 47] (fun _ _ _ vi wr => ∃ (k : Nat) (dk : List (Nat × Nat)), k ≤ h ∧ vi = .int .i64 k ∧ Hid (CRow b wr (.slice (some ⟨g, 0, none⟩) D cap) dk) ∧ Hid (But g w wr) ∧ Hid (Join off h k (hv (uAt fu M) m fun i => F (2 * i)) (hv (uAt fu M) m fun i => F (2 * i + 1)) (fun i => uAt fu M i (m + 1)) d dk)) (fun _ _ _ vi _ => h - (intOf vi).toNat)
    case atStart => exact ⟨0, d2, by omega, rfl, HC3, HB, HJ⟩
    case round =>
      clear HC3 HB HJ
      obtain ⟨k, dk, hk, rfl, HK, HB, HJ⟩ := hrel
      by_cases hlt : k < h
      · have hdk : dk.length = D := HK.out.len
        have en := EN.out
        obtain ⟨x, y, HX, hx⟩ : ∃ x y, Hid (dk[off + k]! = (x, y)) ∧ wr.cell? ⟨g, off + k, none⟩ = some (.complex .f64 x y) := ⟨_, _, rfl, HK.out.cell (by omega)⟩
        obtain ⟨x', y', HX', hx'⟩ : ∃ x y, Hid (dk[off + h + k]! = (x, y)) ∧ wr.cell? ⟨g, off + h + k, none⟩ = some (.complex .f64 x y) := ⟨_, _, rfl, HK.out.cell (by omega)⟩
        have i1 : (wr.cell? ⟨g, off + k, none⟩).isSome = true := by rw [hx]; rfl
        have i2 : (wr.cell? ⟨g, off + h + k, none⟩).isSome = true := by rw [hx']; rfl
        have f1 := HK.out.frz (off + k)
        have f2 := HK.out.frz (off + h + k)
        have HUr : Hid (UnitsAt g wr bp bm q (2 ^ M / 2) (2 ^ M) fu) := HU.out.but HB.out
        have hkp : k < 2 ^ m := by rw [HH.out]; exact hlt
        have HD : Hid (off + (h + h) ≤ dk.length) := by show _ ≤ _; omega
        have HKP : Hid (k < 2 ^ m) := hkp
        clear en hdk hkp
        have kz : (k : Int) < (h : Int) := by omega
        have k0 : (0 : Int) ≤ (k : Int) := by omega
        go_wp2_with fail
        go_region_held3 (fun w' => w'.cell? ⟨g, off + k, none⟩ = some (.complex .f64 x y) ∧ w'.cell? ⟨g, off + h + k, none⟩ = some (.complex .f64 x' y')) (go_keep)
          (first
          | (go_at_call 57; (with_reducible refine (unit_at HUr (Up.drew _) hm hM HKP.out HN).mono ?_); rintro e w' ⟨r, s, kk, rfl, rfl, hr, hs⟩)
          | (go_at_call 31; (with_reducible refine (t31 _ _ _ _ _).mono ?_); rintro e w' ⟨r3, s3, kk3, rfl, rfl, hr3, hs3⟩))
        go_wp2_with (first
          | ((with_reducible refine upon_cadd ?_); intro r4 s4 n4 hr4 hs4)
          | ((with_reducible refine upon_csub ?_); intro r5 s5 n5 hr5 hs5))
        go_roundw
        case rel =>
          have P1 := CRow.put (HK.out.up (Up.drewN _ (1 + kk + kk3 + n4 + n5))) (off + k) r4 s4
          have P2 := CRow.put P1.1 (off + h + k) r5 s5
          refine ⟨k + 1, _, by omega, by go_num, P2.1, ((HB.out.trans (But.of_up (Up.drewN _ _))).trans P1.2).trans P2.2, HJ.out.step hlt HD.out ?_ ?_⟩
          all_goals
            obtain ⟨E1, E2⟩ := HJ.out.2.1 k (Nat.le_refl _) hlt
            rw [HX.out] at E1
            rw [HX'.out] at E2
            rw [← E1, ← E2]
            refine Prod.ext ?_ ?_ <;> simp only [ab2, addC, subC, mulC] <;> first
              | (rw [hr4.out, hr3.out, hr.out, hs.out])
              | (rw [hs4.out, hs3.out, hr.out, hs.out])
              | (rw [hr5.out, hr3.out, hr.out, hs.out])
              | (rw [hs5.out, hs3.out, hr.out, hs.out])
        case measure => simp [intOf]; omega
      · obtain rfl : h = k := by omega
        go_wp2
        go_end0
        refine ⟨dk, rfl, HK, HB, fun i hi => ?_, fun i hi => HJ.out.2.2 i (by have := EN.out; omega)⟩
        have en := EN.out
        rw [hv, HH.out]
        by_cases hi' : i < h
        · rw [if_pos hi']; exact (HJ.out.1 i hi').1
        · rw [if_neg hi', show off + i = off + h + (i - h) by omega]; exact (HJ.out.1 (i - h) (by omega)).2
end Go.Proofs.Ytjnggbpifclpcab

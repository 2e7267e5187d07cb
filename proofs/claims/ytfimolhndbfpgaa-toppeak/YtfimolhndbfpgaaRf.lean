/- What the statement of the whole asks of signs, sizes and magnitudes. -/
import Derived.Test.YtfimolhndbfpgaaMi
import Derived.Test.YtfimolhndbfpgaaNa
import Derived.Test.YtfimolhndbfpgaaRd
namespace Go.Proofs.Ytfimolhndbfpgaa
open Go.ChangeShapes Go.WideShapes Go.ChangeAt Go.RowKit Go.Fl Ieee
attribute [local go_sem] run_store_float run_store_c isSome_set call29 call28 run_neg fold_eq fold_ne fold_lt fold_gt abs_eq

def abs2F (a b : Option Nat) : Option Nat := bin .add (bin .mul a a) (bin .mul b b)
theorem t20 (a b : Nat) (w : World) : Calls Try.prog 20 #[.complex .f64 a b] w (FR w (abs2F (ab a) (ab b))) := by
  go_enter Try.func20, Try.ntmps20
  go_wp2_with ((with_reducible refine upon_fl (by simp) ?_); intro r n hr)
  go_ret
  refine ⟨_, _, rfl, rfl, ?_⟩
  simp_all [abs2F, Hid]
/-- A size: from 1 to the most. -/
def SZ (w : World) (most : Nat) (e : Ending) (w' : World) : Prop := ∃ k : Nat, e = .returned (.int .i64 k) ∧ w' = w ∧ Hid (1 ≤ k ∧ k ≤ most)
theorem t17 (z : Int) (most : Nat) (w : World) (h1 : 1 ≤ most) (h2 : most ≤ 100000) : Calls Try.prog 17 #[.int .i64 z, .int .i64 most] w (SZ w most) := by
  obtain ⟨r, hr⟩ : ∃ r, z.tmod (most : Int) = r := ⟨_, rfl⟩
  have r1 : r < most := by rw [← hr]; exact Int.tmod_lt_of_pos z (by omega)
  have r2 : -(most : Int) < r := by rw [← hr]; exact Int.lt_tmod_of_pos z (by omega)
  obtain ⟨q, hq⟩ : ∃ q : Nat, r + most = (q : Int) := ⟨(r + most).toNat, by omega⟩
  obtain ⟨s, hs⟩ : ∃ s, q % most = s := ⟨_, rfl⟩
  have s1 : s < most := by rw [← hs]; exact Nat.mod_lt _ (by omega)
  have e2 : (q : Int).tmod (most : Int) = s := by rw [Int.tmod_eq_emod_of_nonneg (by omega), ← hs]; rfl
  have e3 : (q : Int) % (most : Int) = s := by rw [← hs]; rfl
  have n0 : ((most : Int) == 0) = false := by rw [beq_eq_false_iff_ne]; omega
  have n1 : ¬ (most : Int) = 0 := by omega
  have n2 : ¬ most = 0 := by omega
  have n3 : ((most : Int) == -1) = false := by rw [beq_eq_false_iff_ne]; omega
  clear hs
  go_enter Try.func17, Try.ntmps17
  go_wp2
  go_ret
  exact ⟨s + 1, by show Ending.returned (.int .i64 ((s : Int) + 1)) = _; simp, rfl, by omega, by omega⟩
theorem t17a (z : Int) (w : World) : Calls Try.prog 17 #[.int .i64 z, .int .i64 300] w (SZ w 300) := t17 z 300 w (by omega) (by omega)
theorem t17b (z : Int) (w : World) : Calls Try.prog 17 #[.int .i64 z, .int .i64 100] w (SZ w 100) := t17 z 100 w (by omega) (by omega)
theorem t17c (z : Int) (w : World) : Calls Try.prog 17 #[.int .i64 z, .int .i64 1000] w (SZ w 1000) := t17 z 1000 w (by omega) (by omega)
theorem run_cmul {P : Program} (t : TypeId) (a b c d : Nat) (w : World) :
    ∃ r i n, (binOp .mul t (.complex .f64 a b) (.complex .f64 c d)).run P w = .ok (.complex .f64 r i) (w.drewN n) ∧ ab r = mulR (ab a) (ab b) (ab c) (ab d) ∧ ab i = mulI (ab a) (ab b) (ab c) (ab d) := by
  obtain ⟨m1, n1, e1, h1⟩ := run_fl (P := P) .mul t a c w (by simp)
  obtain ⟨m2, n2, e2, h2⟩ := run_fl (P := P) .mul t b d (w.drewN n1) (by simp)
  obtain ⟨r, n3, e3, h3⟩ := run_fl (P := P) .sub t m1 m2 ((w.drewN n1).drewN n2) (by simp)
  obtain ⟨m3, n4, e4, h4⟩ := run_fl (P := P) .mul t a d (((w.drewN n1).drewN n2).drewN n3) (by simp)
  obtain ⟨m4, n5, e5, h5⟩ := run_fl (P := P) .mul t b c ((((w.drewN n1).drewN n2).drewN n3).drewN n4) (by simp)
  obtain ⟨i, n6, e6, h6⟩ := run_fl (P := P) .add t m3 m4 (((((w.drewN n1).drewN n2).drewN n3).drewN n4).drewN n5) (by simp)
  have f1 : (Op.floatArith .mul .f64 a c).run P w = _ := e1
  have f2 : (Op.floatArith .mul .f64 b d).run P (w.drewN n1) = _ := e2
  have f3 : (Op.floatArith .sub .f64 m1 m2).run P ((w.drewN n1).drewN n2) = _ := e3
  have f4 : (Op.floatArith .mul .f64 a d).run P (((w.drewN n1).drewN n2).drewN n3) = _ := e4
  have f5 : (Op.floatArith .mul .f64 b c).run P ((((w.drewN n1).drewN n2).drewN n3).drewN n4) = _ := e5
  have f6 : (Op.floatArith .add .f64 m3 m4).run P (((((w.drewN n1).drewN n2).drewN n3).drewN n4).drewN n5) = _ := e6
  refine ⟨r, i, n1 + n2 + n3 + n4 + n5 + n6, ?_, by rw [h3, h1, h2]; rfl, by rw [h6, h4, h5]; rfl⟩
  simp only [World.drewN_drewN] at f1 f2 f3 f4 f5 f6
  simp [binOp, Op.complexOp, Op.Complex.product, Op.Complex.mul, Op.Complex.sub, Op.Complex.add, Op.Complex.arith, Op.Complex.conv, f1, f2, f3, f4, f5, f6]
theorem upon_cmul {P : Program} {o : Oper} {a : Act} {next : Act → World → Prop} {Q : Exit → Act → World → Prop} {t : TypeId} {x y x' y' : Nat} {w : World}
    {F : Value → World → Result Next} (hk : ∀ r i n, Hid (ab r = mulR (ab x) (ab y) (ab x') (ab y')) → Hid (ab i = mulI (ab x) (ab y) (ab x') (ab y')) → o.upon P a next Q (F (.complex .f64 r i) (w.drewN n))) :
    o.upon P a next Q (((binOp .mul t (.complex .f64 x y) (.complex .f64 x' y')).run P w).andThen F) := by
  obtain ⟨r, i, n, e, h1, h2⟩ := run_cmul (P := P) t x y x' y' w
  rw [e]
  exact hk r i n h1 h2
/-- What signs leaves. -/
def SG (w : World) (S : Nat → Bool) (n : Nat) (e : Ending) (w' : World) : Prop := ∃ g cap, e = .returned (.slice (some ⟨g, 0, none⟩) n cap) ∧ Hid (RD w' g 0 n (fun i => sgnP (S i)) ∧ n ≤ cap) ∧ Hid (Up w w')
theorem sgn_start (w : World) {S : Nat → Bool} (h : S 0 = true) : SgnRow w (w.alloc (.cells #[.complex .f64 4607182418800017408 0] 28)) (.slice (some ⟨w.heap.size, 0, none⟩) 1 1) S 1 := by
  refine ⟨⟨by simp, Or.inr ⟨w.heap.size, 1, #[.complex .f64 4607182418800017408 0], rfl, Nat.le_refl _, heap_alloc_last _ _, Nat.le_refl _, by unfold maxLen; omega, by simp, ?_⟩⟩, Up.alloc _ _⟩
  simp [List.range_succ, h, sgnP, ce]
set_option maxHeartbeats 2000000 in
theorem t16 (bb bo len cap nn : Nat) (p : Option Addr) (B : Nat → Bool) (S : Nat → Bool) (w : World) (hp : 0 < len → p = some ⟨bb, bo, none⟩) (hR : ∀ i, i < len → w.cell? ⟨bb, bo + i, none⟩ = some (.bool (B i))) (hS : S 0 = true) (hS1 : ∀ i, S (i + 1) = !B i) (hn : len ≤ 63 ∧ nn = len ∨ 63 < len ∧ nn = 63) (hl : len ≤ 9223372036854775807) :
    Calls Try.prog 16 #[.slice p len cap] w (SG w S (nn + 1)) := by
  obtain ⟨i0, hi, hz0, hz1, hz2⟩ := info_parts info26
  have HR : Hid (∀ i, i < len → w.cell? ⟨bb, bo + i, none⟩ = some (.bool (B i))) := hR
  have HS0 : Hid (SgnRow w (w.alloc (.cells #[.complex .f64 4607182418800017408 0] 28)) (.slice (some ⟨w.heap.size, 0, none⟩) 1 1) S 1) := sgn_start w hS
  have HS1 : Hid (∀ i, S (i + 1) = !B i) := hS1
  have HP : Hid (0 < len → p = some ⟨bb, bo, none⟩) := hp
  have HN : Hid (len ≤ 63 ∧ nn = len ∨ 63 < len ∧ nn = 63) := hn
  have n1 : nn ≤ len := by omega
  have n2 : nn ≤ 63 := by omega
  clear hR hS hS1 hp hn
  go_enter Try.func16, Try.ntmps16
  go_wp2
  go_loopw [3, 4] (fun v vi wr => ∃ k : Nat, k ≤ nn ∧ vi = .int .i64 k ∧ Hid (SgnRow w wr v S (k + 1))) (fun _ vi _ => nn - (intOf vi).toNat)
  case atStart => exact ⟨0, by omega, rfl, HS0⟩
  case round =>
    clear HS0
    obtain ⟨k, hk, rfl, HS⟩ := hrel
    by_cases hlt : k < nn
    · have k1 : (k : Int) < (len : Int) := by omega
      have k2 : (k : Int) < 63 := by omega
      have hc := cell_up (HR.out k (by omega)) HS.out.up
      have hpe := HP.out (by omega)
      subst hpe
      have hown := HS.out.row
      have sz : w.heap.size ≤ wr.heap.size := HS.out.up.size
      cases hb : B k
      · rw [hb] at hc
        have HX : Hid (sgnP (S (k + 1)) = (4607182418800017408, 0)) := by show _ = _; rw [HS1.out, hb]; rfl
        clear hb
        go_wp2_with (at_builtin; refine wpList_append_own _ rfl _ _ 27 rfl w.heap.size 28 i0 (.complex .f64 0 0) 1 16 Try.underlying27 hi hz0 hz1 hz2 rfl (by decide) _ _ _ rfl (hown.alloc _) ⟨wr.heap.size, 0, none⟩ 1 1 [.complex .f64 4607182418800017408 0] rfl rfl (cell_newc _ _ _ _) (one_cellc _ _) (by unfold maxLen; omega) (by omega) (by simp; omega) ?_)
        intro v' w3 hown' hgrow _
        have HS3 : Hid (SgnRow w w3 v' S (k + 1 + 1)) := HS.out.push (Up.alloc _ _) HX.out (by simpa [List.range_succ] using hown') hgrow
        clear hown' hgrow hown HS
        go_wp2
        go_roundw
        case rel => exact ⟨k + 1, by omega, by go_num, HS3⟩
        case measure => simp [intOf]; omega
      · rw [hb] at hc
        have HX : Hid (sgnP (S (k + 1)) = (13830554455654793216, 0)) := by show _ = _; rw [HS1.out, hb]; rfl
        clear hb
        go_wp2_with (at_builtin; refine wpList_append_own _ rfl _ _ 27 rfl w.heap.size 28 i0 (.complex .f64 0 0) 1 16 Try.underlying27 hi hz0 hz1 hz2 rfl (by decide) _ _ _ rfl (hown.alloc _) ⟨wr.heap.size, 0, none⟩ 1 1 [.complex .f64 13830554455654793216 0] rfl rfl (cell_newc _ _ _ _) (one_cellc _ _) (by unfold maxLen; omega) (by omega) (by simp; omega) ?_)
        intro v' w3 hown' hgrow _
        have HS3 : Hid (SgnRow w w3 v' S (k + 1 + 1)) := HS.out.push (Up.alloc _ _) HX.out (by simpa [List.range_succ] using hown') hgrow
        clear hown' hgrow hown HS
        go_wp2
        go_roundw
        case rel => exact ⟨k + 1, by omega, by go_num, HS3⟩
        case measure => simp [intOf]; omega
    · obtain rfl : k = nn := by omega
      obtain ⟨gl, cl, hv, hcl, hrd⟩ := HS.out.rd (by omega)
      subst hv
      rcases HN.out with ⟨h1, h2⟩ | ⟨h1, h2⟩
      · have k1 : ¬ (k : Int) < (len : Int) := by omega
        clear h1 h2
        go_wp2
        go_ret
        exact ⟨gl, cl, rfl, ⟨hrd, hcl⟩, HS.out.up⟩
      · have k1 : (k : Int) < (len : Int) := by omega
        have k2 : ¬ (k : Int) < 63 := by omega
        clear h1 h2
        go_wp2
        go_ret
        exact ⟨gl, cl, rfl, ⟨hrd, hcl⟩, HS.out.up⟩
end Go.Proofs.Ytfimolhndbfpgaa

/- Numbers of the statement of the whole. -/
namespace Go.Proofs.Ytfimolhndbfpgaa
open Go.Fl Ieee Go.RowKit

/-- A pulse's own lags, as whole numbers. -/
def ownZ (S : Nat → Bool) (n p : Nat) : Int :=
  if p + 1 < n then dotZ (fun i => sg (S i)) (fun i => sg (S (i + (n - 1 - p)))) (n - (n - 1 - p))
  else dotZ (fun i => sg (S (i + (p - (n - 1))))) (fun i => sg (S i)) (n - (p - (n - 1)))
theorem sg_bd (F G : Nat → Bool) (n : Nat) : Bd (fun i => sg (F i)) (fun i => sg (G i)) n 1 := by
  intro i _
  show -((1 : Nat) : Int) ≤ sg (F i) * sg (G i) ∧ sg (F i) * sg (G i) ≤ ((1 : Nat) : Int)
  cases F i <;> cases G i <;> simp [sg]
theorem own_whole (S : Nat → Bool) {n : Nat} (hn : n ≤ 1000) (p : Nat) : W2 (ownF (fun i => sgnP (S i)) n p) (ownZ S n p) := by
  unfold ownF ownZ
  split
  · exact sum_whole (K := 1) (fun i _ => sgn_w2 _) (fun i _ => sgn_w2 _) (sg_bd _ (fun i => S (i + (n - 1 - p))) _) (by unfold P53; omega)
  · exact sum_whole (K := 1) (fun i _ => sgn_w2 _) (fun i _ => sgn_w2 _) (sg_bd (fun i => S (i + (p - (n - 1)))) _ _) (by unfold P53; omega)
theorem own_bd (S : Nat → Bool) (n p : Nat) : (ownZ S n p).natAbs ≤ n := by
  unfold ownZ
  split
  · have := dotZ_bound (sg_bd S (fun i => S (i + (n - 1 - p))) (n - (n - 1 - p)))
    omega
  · have := dotZ_bound (sg_bd (fun i => S (i + (p - (n - 1)))) S (n - (p - (n - 1))))
    omega
theorem dotZ_scale (z : Int) (F G : Nat → Int) : ∀ n, dotZ (fun i => z * F i) G n = z * dotZ F G n
  | 0 => by simp [dotZ]
  | n + 1 => by rw [dotZ, dotZ, dotZ_scale z F G n, Int.mul_add, Int.mul_assoc]
theorem dotZ_skip {F G : Nat → Int} (δ : Nat) (h : ∀ i, i < δ → F i = 0) : ∀ n, dotZ F G (δ + n) = dotZ (fun i => F (i + δ)) (fun i => G (i + δ)) n
  | 0 => by
    have : ∀ m, m ≤ δ → dotZ F G m = 0 := by
      intro m
      induction m with
      | zero => intro _; rfl
      | succ m ih => intro hm; rw [dotZ, ih (by omega), h m (by omega)]; omega
    rw [Nat.add_zero, this δ (Nat.le_refl _)]; rfl
  | n + 1 => by rw [← Nat.add_assoc, dotZ, dotZ_skip δ h n, dotZ, Nat.add_comm n δ]
/-- Behind where it stands. -/
theorem peak_high (S : Nat → Bool) (z : Int) {D n lag : Nat} (h : lag < n) : peakC S z D n (D + lag) = z * ownZ S n (lag + n - 1) := by
  unfold peakC ownZ
  rw [if_neg (by omega), show lag + n - 1 - (n - 1) = lag by omega]
  have e := dotZ_cut (F := fun i => peakF S z D n (i + (D + lag))) (G := fun i => sg (S i)) (t := n - lag) (n := n) (fun i h1 h2 => by show peakF _ _ _ _ _ = 0; unfold peakF; rw [if_neg (by omega)])
  rw [← e, Nat.min_eq_left (by omega), ← dotZ_scale]
  refine dotZ_congr fun i hi => ?_
  show peakF S z D n (i + (D + lag)) * _ = _
  unfold peakF
  rw [if_pos (by omega), show i + (D + lag) - D = i + lag by omega]
/-- Ahead of it. -/
theorem peak_low (S : Nat → Bool) (z : Int) {D n δ d : Nat} (h : δ < n) (h0 : 0 < δ) (hd : d + δ = D) : peakC S z D n d = z * ownZ S n (n - 1 - δ) := by
  unfold peakC ownZ
  rw [if_pos (by omega), show n - 1 - (n - 1 - δ) = δ by omega]
  have e := dotZ_skip (F := fun i => peakF S z D n (i + d)) (G := fun i => sg (S i)) δ (fun i hi => by show peakF _ _ _ _ _ = 0; unfold peakF; rw [if_neg (by omega)]) (n - δ)
  rw [show δ + (n - δ) = n by omega] at e
  rw [e, ← dotZ_scale]
  refine dotZ_congr fun i hi => ?_
  show peakF S z D n (i + δ + d) * _ = _
  unfold peakF
  rw [if_pos (by omega), show i + δ + d - D = i by omega]
theorem peak_far (S : Nat → Bool) (z : Int) {D n d : Nat} (h : d + n ≤ D ∨ D + n ≤ d) : peakC S z D n d = 0 := by
  unfold peakC
  have : dotZ (fun i => peakF S z D n (i + d)) (fun i => sg (S i)) n = dotZ (fun _ => 0) (fun i => sg (S i)) n := dotZ_congr fun i hi => by
    show peakF S z D n (i + d) * _ = _
    unfold peakF
    rw [if_neg (by omega)]
  rw [this]
  have z0 : ∀ m, dotZ (fun _ => 0) (fun i => sg (S i)) m = 0 := by
    intro m
    induction m with
    | zero => rfl
    | succ m ih => rw [dotZ, ih]; omega
  exact z0 n
/-- The limit that the statement asks for. -/
theorem lim_val : val 4517329193108106637 ≤ 1 / 999999 ∧ 1 / 1000001 ≤ val 4517329193108106637 := by decide +kernel
theorem near_lim {K xa xb : Nat} {q : C2} {c : Int} {x y r s ra lm kb : Nat} (hK : 1 ≤ K) (hK2 : K ≤ 1000) (hq : NF q (rq (c : Rat)) ((K : Rat) / 3800000)) (hxa : q = (ab xa, ab xb)) (hy : W2 (ab x, ab y) c) (hcb : c.natAbs ≤ 1000000)
    (hr : ab r = bin .sub (ab xa) (ab x)) (hs : ab s = bin .sub (ab xb) (ab y)) (hra : ab ra = absF (ab r) (ab s)) (hk : WH (ab kb) K) (hlm : ab lm = bin .mul (ab 4517329193108106637) (ab kb)) : gtF (ab ra) (ab lm) = false := by
  obtain ⟨k1, k2⟩ := one_rat hK hK2
  have hcr := int_rat (K := 1000000) hcb
  have e6 : ((1000000 : Nat) : Rat) = 1000000 := by decide +kernel
  rw [e6] at hcr
  have sb := NF.sub hq (NF.whole hy) (rq_le hcr.1 hcr.2) (rq_le hcr.1 hcr.2) (big1000 (by grind))
  have sb2 : NF (ab r, ab s) (qs (rq (c : Rat)) (rq (c : Rat))) ((K : Rat) / 3700000) := by
    have e : subC q (ab x, ab y) = (ab r, ab s) := by rw [hxa, hr, hs]; rfl
    rw [← e]
    exact sb.mono (by grind)
  obtain ⟨u, v, euv, fu, fv, l⟩ := sb2
  have e1 : ab r = some u := congrArg Prod.fst euv
  have e2 : ab s = some v := congrArg Prod.snd euv
  have l1 := l.fst
  have l2 := l.snd
  simp only [qs, vv, rq] at l1 l2
  obtain ⟨ρ, eρ, fρ, hρ⟩ := abs_small fu fv (h := (K : Rat) / 3700000) (by grind) (by grind) (by grind) (by grind) (by grind)
  rw [e1, e2, eρ] at hra
  obtain ⟨kk, ek, fk, vk⟩ := hk
  have fl : Fnt 4517329193108106637 := by unfold Fnt; decide
  obtain ⟨lq, elq⟩ := bin_some_mul fl fk
  rw [Rat.intCast_natCast] at vk
  obtain ⟨v1, v2⟩ := lim_val
  have pm := part_mul (x := val 4517329193108106637) (y := val kk) (A := 1 / 999999) (B := (K : Rat)) v1 (by grind) (by rw [vk]; exact Rat.le_refl) (by rw [vk]; grind)
  obtain ⟨flq, nlq⟩ := mul_near fl fk elq pm.1 pm.2 (big1000 (by grind))
  rw [pw53] at nlq
  have nn := near_parts nlq
  have es := eta_small
  have lo : (1 / 1000001) * (K : Rat) ≤ val 4517329193108106637 * val kk := by rw [vk]; exact Rat.mul_le_mul_of_nonneg_right v2 (by grind)
  rw [Fnt.ab fl, ek, elq] at hlm
  have er : ra = ρ := of_ab hra
  have el : lm = lq := of_ab hlm
  subst er el
  rw [gtF_val fρ flq, decide_eq_false_iff_not]
  have h1 : val ra ≤ (K : Rat) / 2000000 := by grind
  have h2 : (K : Rat) / 1500000 ≤ val lm := by grind
  grind
end Go.Proofs.Ytfimolhndbfpgaa

/- The rows of the statement of the whole, and what is told of them. -/
namespace Go.Proofs.Ytfimolhndbfpgaa
open Go.ChangeShapes Go.WideShapes Go.ChangeAt Go.RowKit Go.Fl Ieee
attribute [local go_sem] run_store_float run_store_c isSome_set call29 call28 run_neg fold_eq fold_ne fold_lt fold_gt abs_eq

/-- A size less one. -/
def S1 (w : World) (most : Nat) (e : Ending) (w' : World) : Prop := ∃ k : Nat, e = .returned (.int .i64 ((k : Int) + 1)) ∧ w' = w ∧ Hid (k < most)
theorem SZ.less {w w' : World} {most : Nat} {e : Ending} (h : SZ w most e w') : S1 w most e w' := by
  obtain ⟨k, he, hw, hk⟩ := h
  have := hk.out
  exact ⟨k - 1, by rw [he]; congr 2; omega, hw, by show _ < _; omega⟩
theorem t17d (z : Int) (w : World) : Calls Try.prog 17 #[.int .i64 z, .int .i64 300] w (S1 w 300) := (t17a z w).mono fun _ _ h => h.less
theorem t17e (z : Int) (w : World) : Calls Try.prog 17 #[.int .i64 z, .int .i64 100] w (S1 w 100) := (t17b z w).mono fun _ _ h => h.less
theorem t16n (bb bo len cap nn n : Nat) (p : Option Addr) (B : Nat → Bool) (S : Nat → Bool) (w : World) (hp : 0 < len → p = some ⟨bb, bo, none⟩) (hR : ∀ i, i < len → w.cell? ⟨bb, bo + i, none⟩ = some (.bool (B i))) (hS : S 0 = true) (hS1 : ∀ i, S (i + 1) = !B i) (hn : len ≤ 63 ∧ nn = len ∨ 63 < len ∧ nn = 63) (hl : len ≤ 9223372036854775807) (hnn : n = nn + 1) :
    Calls Try.prog 16 #[.slice p len cap] w (SG w S n) := by subst hnn; exact t16 bb bo len cap nn p B S w hp hR hS hS1 hn hl
/-- The two rows while the pulse is laid into them. -/
structure PJ (w wr : World) (A T L L1 : Nat) (S : Nat → Bool) (z : Int) (D i : Nat) (da dt : List (Nat × Nat)) : Prop where
  di : DI w wr A T L L1 da dt
  at1 : ∀ j, j < L → W2 (ab2 da[j]!) (peakF S z D i j)
  at2 : ∀ j, j < L1 → W2 (ab2 dt[j]!) (peakF S z (D + 1) i j)
theorem PJ.start {w wr : World} {A T L L1 : Nat} {S : Nat → Bool} {z : Int} {D : Nat} (h : DI w wr A T L L1 (List.replicate L (0, 0)) (List.replicate L1 (0, 0))) : PJ w wr A T L L1 S z D 0 (List.replicate L (0, 0)) (List.replicate L1 (0, 0)) := by
  have e : ∀ D j, peakF S z D 0 j = 0 := fun D j => by unfold peakF; rw [if_neg (by omega)]
  have r : ∀ L j, j < L → (List.replicate L ((0, 0) : Nat × Nat))[j]! = (0, 0) := fun L j hj => by rw [getElem!_pos _ j (by simpa using hj)]; simp
  exact ⟨h, fun j hj => by rw [r L j hj, e]; exact ⟨WH.zero, WH.zero⟩, fun j hj => by rw [r L1 j hj, e]; exact ⟨WH.zero, WH.zero⟩⟩
theorem PJ.step {w wr : World} {A T L L1 : Nat} {S : Nat → Bool} {z : Int} {D i k k2 r s r2 s2 : Nat} {da dt : List (Nat × Nat)} (h : PJ w wr A T L L1 S z D i da dt) (hw : W2 (ab r, ab s) (z * sg (S i))) (hw2 : W2 (ab r2, ab s2) (z * sg (S i))) (h1 : D + i < L) (h2 : D + 1 + i < L1) :
    PJ w ((((wr.drewN k).setCell ⟨A, D + i, none⟩ (.complex .f64 r s)).drewN k2).setCell ⟨T, D + 1 + i, none⟩ (.complex .f64 r2 s2)) A T L L1 S z D (i + 1) (da.set (D + i) (r, s)) (dt.set (D + 1 + i) (r2, s2)) := by
  refine ⟨(((h.di.mono (Up.drewN _ k)).putA _ _ _).mono (Up.drewN _ k2)).putT _ _ _, fun j hj => ?_, fun j hj => ?_⟩
  · rw [peak_next, set_at _ _ _ _ (by rw [h.di.ans.len]; omega)]
    split
    · exact hw
    · exact h.at1 j hj
  · rw [peak_next, set_at _ _ _ _ (by rw [h.di.ter.len]; omega)]
    split
    · exact hw2
    · exact h.at2 j hj
/-- k times a sign. -/
theorem sign_mul {K x y r s fk : Nat} {b : Bool} (hK : K ≤ 1000) (hk : Hid (WH (ab fk) K)) (hx : Hid (sgnP b = (x, y))) (hr : Hid (ab r = mulR (ab fk) (ab 0) (ab x) (ab y))) (hs : Hid (ab s = mulI (ab fk) (ab 0) (ab x) (ab y))) : W2 (ab r, ab s) ((K : Int) * sg b) := by
  have h1 : W2 (ab fk, ab 0) (K : Int) := ⟨hk.out, WH.zero⟩
  have h2 := sgn_w2 b
  rw [hx.out] at h2
  have hb : ((K : Int) * sg b).natAbs ≤ 1000 := by cases b <;> simp [sg] <;> omega
  have m := h1.mul h2 (by unfold P53; omega) (by unfold P53; omega)
  rw [hr.out, hs.out]
  exact m
theorem least_ex {K : Nat} (h2 : K ≤ 1024) : ∃ M, M ≤ 10 ∧ Least K M := by
  have h : ∀ m, K ≤ 2 ^ m → ∃ M, M ≤ m ∧ Least K M := by
    intro m
    induction m with
    | zero => intro h; exact ⟨0, Nat.le_refl _, h, fun i hi => by omega⟩
    | succ m ih =>
      intro h
      by_cases hm : K ≤ 2 ^ m
      · obtain ⟨M, a, b⟩ := ih hm
        exact ⟨M, by omega, b⟩
      · refine ⟨m + 1, Nat.le_refl _, h, fun i hi => ?_⟩
        have : 2 ^ i ≤ 2 ^ m := Nat.pow_le_pow_right (by omega) (by omega)
        omega
  exact h 10 (by omega)
/-- Quick of the row. -/
theorem quick_peak {M L n D K d : Nat} {S : Nat → Bool} {da : List (Nat × Nat)} (hM : M ≤ 10) (hK : 1 ≤ K) (hK2 : K ≤ 1000) (hn : n ≤ 64) (h1 : 1 ≤ n) (hL : D + n ≤ L) (hd : d < L) (hp : L + n - 1 ≤ 2 ^ M) (h : ∀ j, j < L → W2 (ab2 da[j]!) (peakF S K D n j)) :
    NF (quickF M (fill (fun i => da[i]!) L) (fill (fun i => sgnP (S i)) n) d) (rq ((peakC S K D n d : Int) : Rat)) ((K : Rat) / 3800000) := by
  have hq := quick_nf (Fa := fill (fun i => da[i]!) L) (Fb := fill (fun i => sgnP (S i)) n) (a := fun j => peakF S K D n j) (b := fun j => if j < n then sg (S j) else 0) (K := K) (n := n) (d := d) hM hK hK2
    (fun j hj => by
      unfold fill
      split
      · rename_i hl; exact h j hl
      · rename_i hl
        show W2 _ (peakF S K D n j)
        unfold peakF
        rw [if_neg (by omega)]; exact ⟨WH.zero, WH.zero⟩)
    (fun j hj => by
      show W2 _ (if j < n then sg (S j) else 0)
      unfold fill
      split
      · exact sgn_w2 (S j)
      · exact ⟨WH.zero, WH.zero⟩)
    (fun j => by
      show (peakF S K D n j).natAbs ≤ K
      unfold peakF
      split
      · cases S (j - D) <;> simp [sg]
      · simp)
    (fun j => by
      show (if j < n then sg (S j) else 0 : Int).natAbs ≤ 1
      split
      · cases S j <;> simp [sg]
      · simp)
    (fun j hj => by show (if j < n then sg (S j) else 0 : Int) = 0; rw [if_neg (by omega)]) (by omega) (by omega)
  have e : dotZ (fun i => peakF S K D n (i + d)) (fun j => if j < n then sg (S j) else 0) n = peakC S K D n d := dotZ_congr fun i hi => by show _ * (if i < n then sg (S i) else 0 : Int) = _; rw [if_pos hi]
  rw [← e]
  exact hq
/-- Magnitudes, squared. -/
theorem abs2_whole {a b : Option Nat} {z : Int} (h : W2 (a, b) z) (hz : z.natAbs ≤ 1000000) : WH (abs2F a b) (z * z) := by
  have hb : (z * z).natAbs ≤ 1000000 * 1000000 := by rw [Int.natAbs_mul]; exact Nat.mul_le_mul hz hz
  have h1 : WH a z := h.1
  have h2 : WH b 0 := h.2
  exact ((h1.mul h1 (by unfold P53; omega) (by unfold P53; omega)).add (h2.mul h2 (by unfold P53; omega) (by unfold P53; omega)) (by unfold P53; omega) (by unfold P53; omega)).cast (by omega)
theorem abs2_val {a b : Option Nat} {z : Int} (h : W2 (a, b) z) (hz : z.natAbs ≤ 1000000) : ∃ v, abs2F a b = some v ∧ WH (ab v) (z * z) := by
  have hw := abs2_whole h hz
  obtain ⟨v, e, f, hv⟩ := hw
  exact ⟨v, e, v, Fnt.ab f, f, hv⟩
theorem t20q {a b v : Nat} {w : World} (h : abs2F (ab a) (ab b) = some v) (n : Nat) : Calls Try.prog 20 #[.complex .f64 a b] (w.drewN n) fun e w' => e = .returned (.float .f64 v) ∧ ∃ m, w' = (w.drewN n).drewN m :=
  (t20 a b _).mono fun e w' ⟨r, m, he, hw, hr⟩ => ⟨by rw [he, of_ab (hr.out.trans h)], m, hw⟩
theorem wh_ab {v : Nat} {z : Int} (h : WH (some v) z) : WH (ab v) z := by
  obtain ⟨q, e, f, hv⟩ := h
  cases e
  exact ⟨_, Fnt.ab f, f, hv⟩
theorem below_top {S : Nat → Bool} {K D n d x y xd yd v1 v2 : Nat} (HY : Hid (W2 (ab x, ab y) (peakC S K D n d))) (HYD : Hid (W2 (ab xd, ab yd) ((n : Int) * K))) (V1 : Hid (abs2F (ab x) (ab y) = some v1)) (V2 : Hid (abs2F (ab xd) (ab yd) = some v2)) (hd : d ≠ D) (n1 : 1 ≤ n) (n2 : n ≤ 64) (k1 : 1 ≤ K) (k2 : K ≤ 1000) :
    gtF (ab v1) (ab v2) = false ∧ eqF (ab v1) (ab v2) = false ∧ ltF (ab v1) (ab v2) = true := by
  have hc := peak_off S (K : Int) n1 hd
  rw [Int.natAbs_natCast] at hc
  have e1 : n * K = (n - 1) * K + K := by
    obtain ⟨m, rfl⟩ : ∃ m, n = m + 1 := ⟨n - 1, by omega⟩
    rw [Nat.add_sub_cancel, Nat.succ_mul]
  have hnK : n * K ≤ 64 * 1000 := Nat.mul_le_mul n2 k2
  have c1 : (peakC S K D n d).natAbs < n * K := by omega
  have ez : ((n * K : Nat) : Int) = (n : Int) * K := Int.natCast_mul _ _
  have c2 : ((n : Int) * K).natAbs = n * K := by rw [← ez, Int.natAbs_natCast]
  have w1 := abs2_whole HY.out (by omega)
  have w2 := abs2_whole HYD.out (by omega)
  rw [V1.out] at w1
  rw [V2.out] at w2
  have w1' := wh_ab w1
  have w2' := wh_ab w2
  have lt : peakC S K D n d * peakC S K D n d < (n : Int) * K * ((n : Int) * K) := by
    rw [← Int.natAbs_mul_self, ← Int.natAbs_mul_self (a := (n : Int) * K), c2]
    have := Nat.mul_self_lt_mul_self c1
    omega
  rw [w1'.gt w2', w1'.eq w2', w1'.lt w2']
  refine ⟨?_, ?_, ?_⟩
  · simp only [decide_eq_false_iff_not]; omega
  · simp only [decide_eq_false_iff_not]; omega
  · simp only [decide_eq_true_eq]; exact lt
theorem peak_size {S : Nat → Bool} {K D n d : Nat} (n2 : n ≤ 64) (k2 : K ≤ 1000) : (peakC S K D n d).natAbs ≤ 1000000 := by
  have h := dotZ_bound (peak_bd (S := S) (z := (K : Int)) (D := D) (n := n) (p := d) (Z := K) (by rw [Int.natAbs_natCast]; exact Nat.le_refl _))
  have hb : n * K ≤ 64 * 1000 := Nat.mul_le_mul n2 k2
  show (dotZ _ _ _).natAbs ≤ _
  omega
theorem same_w2 {x y r s : Nat} {c : Int} (h1 : W2 (ab x, ab y) c) (h2 : W2 (ab r, ab s) c) : eqF (ab x) (ab r) = true ∧ eqF (ab y) (ab s) = true := by
  have a : eqF (ab x) (ab r) = decide (c = c) := WH.eq h1.1 h2.1
  have b : eqF (ab y) (ab s) = decide ((0 : Int) = 0) := WH.eq h1.2 h2.2
  exact ⟨by rw [a]; simp, by rw [b]; simp⟩
theorem want_eq {x y ox oy r s fk K : Nat} {c o : Int} (HY : Hid (W2 (ab x, ab y) c)) (HO : Hid (W2 (ab ox, ab oy) o)) (FK : Hid (WH (ab fk) K)) (hc : Hid (c = (K : Int) * o)) (ho : o.natAbs ≤ 64) (hK : K ≤ 1000) (hr : Hid (ab r = mulR (ab fk) (ab 0) (ab ox) (ab oy))) (hs : Hid (ab s = mulI (ab fk) (ab 0) (ab ox) (ab oy))) : eqF (ab x) (ab r) = true ∧ eqF (ab y) (ab s) = true := by
  have h1 : W2 (ab fk, ab 0) (K : Int) := ⟨FK.out, WH.zero⟩
  have hb : ((K : Int) * o).natAbs ≤ 1000 * 64 := by rw [Int.natAbs_mul, Int.natAbs_natCast]; exact Nat.mul_le_mul hK ho
  have m := h1.mul HO.out (by unfold P53; omega) (by unfold P53; omega)
  have m2 : W2 (ab r, ab s) ((K : Int) * o) := by rw [hr.out, hs.out]; exact m
  have h2 := HY.out
  rw [hc.out] at h2
  exact same_w2 h2 m2
theorem want_none {x y : Nat} {c : Int} (HY : Hid (W2 (ab x, ab y) c)) (hc : c = 0) : eqF (ab x) (ab 0) = true ∧ eqF (ab y) (ab 0) = true := by
  subst hc
  exact same_w2 HY.out ⟨WH.zero, WH.zero⟩
theorem top_eq {xd yd r s fk K n : Nat} (HYD : Hid (W2 (ab xd, ab yd) ((n : Int) * K))) (FK : Hid (WH (ab fk) K)) (n2 : n ≤ 64) (hK : K ≤ 1000) (hr : Hid (ab r = mulR (ab (floatOfInt .f64 (n : Int))) (ab 0) (ab fk) (ab 0))) (hs : Hid (ab s = mulI (ab (floatOfInt .f64 (n : Int))) (ab 0) (ab fk) (ab 0))) : eqF (ab xd) (ab r) = true ∧ eqF (ab yd) (ab s) = true := by
  have h1 : W2 (ab (floatOfInt .f64 (n : Int)), ab 0) (n : Int) := ⟨WH.int (by unfold P53; omega) (by unfold P53; omega), WH.zero⟩
  have h2 : W2 (ab fk, ab 0) (K : Int) := ⟨FK.out, WH.zero⟩
  have hb : ((n : Int) * K).natAbs ≤ 64 * 1000 := by rw [Int.natAbs_mul, Int.natAbs_natCast, Int.natAbs_natCast]; exact Nat.mul_le_mul n2 hK
  have m := h1.mul h2 (by unfold P53; omega) (by unfold P53; omega)
  have m2 : W2 (ab r, ab s) ((n : Int) * K) := by rw [hr.out, hs.out]; exact m
  exact same_w2 HYD.out m2
end Go.Proofs.Ytfimolhndbfpgaa

/- The last comparison of the statement of the whole, by fixed values. -/
namespace Go.Proofs.Ytfimolhndbfpgaa
open Go.ChangeShapes Go.WideShapes Go.ChangeAt Go.RowKit Go.Fl Ieee

theorem run_fl_some {P : Program} (op : BinOp) (t : TypeId) {x y r : Nat} (w : World) (h : bin op (ab x) (ab y) = some r) : (binOp op t (.float .f64 x) (.float .f64 y)).run P w = .ok (.float .f64 r) w :=
  run_float_arith w op t .f64 x y r (by rw [bits_ab]; exact h)
theorem run_csub_some {P : Program} (t : TypeId) {a b c d u v : Nat} (w : World) (h1 : bin .sub (ab a) (ab c) = some u) (h2 : bin .sub (ab b) (ab d) = some v) : (binOp .sub t (.complex .f64 a b) (.complex .f64 c d)).run P w = .ok (.complex .f64 u v) w := by
  have f1 : (Op.floatArith .sub .f64 a c).run P w = .ok (.float .f64 u) w := run_fl_some (P := P) .sub t w h1
  have f2 : (Op.floatArith .sub .f64 b d).run P w = .ok (.float .f64 v) w := run_fl_some (P := P) .sub t w h2
  simp [binOp, Op.complexOp, Op.Complex.arith, f1, f2]
theorem t8q {u v ra : Nat} {w : World} (h : absF (ab u) (ab v) = some ra) (n : Nat) : Calls Try.prog 8 #[.complex .f64 u v] (w.drewN n) fun e w' => e = .returned (.float .f64 ra) ∧ ∃ m, w' = (w.drewN n).drewN m :=
  (t8 u v _).mono fun e w' ⟨r, m, he, hw, hr⟩ => ⟨by rw [he, of_ab (hr.out.trans h)], m, hw⟩
theorem t8r {u v ra nq : Nat} {w : World} (h : absF (ab u) (ab v) = some ra) (x : Nat) : Calls Try.prog 8 #[.complex .f64 u v] (w.drewN (nq + x)) fun e w'' => e = .returned (.float .f64 ra) ∧ ∃ n, w'' = w.drewN (nq + n) :=
  (t8 u v _).mono fun e w' ⟨r, m, he, hw, hr⟩ => ⟨by rw [he, of_ab (hr.out.trans h)], x + m, by rw [hw, World.drewN_drewN, Nat.add_assoc]⟩
theorem t20r {a b v nq : Nat} {w : World} (h : abs2F (ab a) (ab b) = some v) (x : Nat) : Calls Try.prog 20 #[.complex .f64 a b] (w.drewN (nq + x)) fun e w'' => e = .returned (.float .f64 v) ∧ ∃ n, w'' = w.drewN (nq + n) :=
  (t20 a b _).mono fun e w' ⟨r, m, he, hw, hr⟩ => ⟨by rw [he, of_ab (hr.out.trans h)], x + m, by rw [hw, World.drewN_drewN, Nat.add_assoc]⟩
theorem lim_big {K : Rat} (h : K ≤ 1000) : 1 / 999999 * K ≤ pw 1000 := big1000 (by grind)
/-- What stands in the last comparison. -/
structure LV (qx qy x y fk u v ra lm : Nat) : Prop where
  s1 : bin .sub (ab qx) (ab x) = some u
  s2 : bin .sub (ab qy) (ab y) = some v
  mg : absF (ab u) (ab v) = some ra
  ml : bin .mul (ab 4517329193108106637) (ab fk) = some lm
  gt : gtF (ab ra) (ab lm) = false
theorem last_vals {K qx qy x y fk : Nat} {q : C2} {c : Int} (hK : 1 ≤ K) (hK2 : K ≤ 1000) (hq : NF q (rq (c : Rat)) ((K : Rat) / 3800000)) (hxa : q = (ab qx, ab qy)) (hy : W2 (ab x, ab y) c) (hcb : c.natAbs ≤ 1000000) (hk : WH (ab fk) K) : ∃ u v ra lm, LV qx qy x y fk u v ra lm := by
  obtain ⟨k1, k2⟩ := one_rat hK hK2
  have hcr := int_rat (K := 1000000) hcb
  have e6 : ((1000000 : Nat) : Rat) = 1000000 := by decide +kernel
  rw [e6] at hcr
  have sb := (NF.sub hq (NF.whole hy) (rq_le hcr.1 hcr.2) (rq_le hcr.1 hcr.2) (big1000 (by grind))).mono (F := (K : Rat) / 3700000) (by grind)
  obtain ⟨u, v, euv, fu, fv, l⟩ := sb
  rw [hxa] at euv
  have e1 : bin .sub (ab qx) (ab x) = some u := congrArg Prod.fst euv
  have e2 : bin .sub (ab qy) (ab y) = some v := congrArg Prod.snd euv
  have l1 := l.fst
  have l2 := l.snd
  simp only [qs, vv, rq] at l1 l2
  obtain ⟨ρ, eρ, fρ, _⟩ := abs_small fu fv (h := (K : Rat) / 3700000) (by grind) (by grind) (by grind) (by grind) (by grind)
  have hk' := hk
  obtain ⟨kk, ek, fk', _⟩ := hk
  have fl : Fnt 4517329193108106637 := by unfold Fnt; decide
  obtain ⟨lm, elm⟩ := bin_some_mul fl fk'
  have elm' : bin .mul (ab 4517329193108106637) (ab fk) = some lm := by rw [Fnt.ab fl, ek]; exact elm
  have flm : Fnt lm := by
    have hv : val kk = (K : Rat) := by
      obtain ⟨kk2, ek2, _, vk2⟩ := hk'
      have : kk2 = kk := by rw [ek] at ek2; injection ek2 with h; exact h.symm
      rw [← this, vk2, Rat.intCast_natCast]
    obtain ⟨v1, v2⟩ := lim_val
    have pm := part_mul (x := val 4517329193108106637) (y := val kk) (A := 1 / 999999) (B := (K : Rat)) v1 (by grind) (by rw [hv]; exact Rat.le_refl) (by rw [hv]; grind)
    exact (mul_near fl fk' elm pm.1 pm.2 (lim_big k2)).1
  have au : ab u = some u := Fnt.ab fu
  have av : ab v = some v := Fnt.ab fv
  refine ⟨u, v, ρ, lm, e1, e2, by rw [au, av]; exact eρ, elm', ?_⟩
  exact near_lim hK hK2 hq hxa hy hcb (by rw [au, e1]) (by rw [av, e2]) (by rw [Fnt.ab fρ, au, av, eρ]) hk' (by rw [Fnt.ab flm, elm'])
end Go.Proofs.Ytfimolhndbfpgaa

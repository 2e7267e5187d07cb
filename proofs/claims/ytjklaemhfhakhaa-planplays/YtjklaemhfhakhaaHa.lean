/- ticks: whose each tick is. -/
import Derived.Test.YtjklaemhfhakhaaMf
import Derived.Test.YtjklaemhfhakhaaGb
import Derived.Deep.Upon
import Derived.Deep.AppendLies
namespace Go.Proofs.Ytjklaemhfhakhaa
open Go.ChangeShapes Go.WideShapes Go.ChangeAt Go.RowKit

/-- A row of whole numbers of one's own. -/
structure TK (w : World) (g E : Nat) (F : Nat → Int) (wr : World) : Prop where
  up : Up w wr
  ge : w.heap.size ≤ g
  lt : g < wr.heap.size
  c : ∀ k, k < E → wr.cell? ⟨g, k, none⟩ = some (.int .i64 (F k))
  fz : ∀ k, wr.frozen? ⟨g, k, none⟩ = false
theorem TK.congr {w : World} {g E : Nat} {F G : Nat → Int} {wr : World} (h : TK w g E F wr) (hF : ∀ k, k < E → F k = G k) : TK w g E G wr := ⟨h.up, h.ge, h.lt, fun k hk => by rw [← hF k hk]; exact h.c k hk, h.fz⟩
theorem TK.upp {w : World} {g E : Nat} {F : Nat → Int} {wr w' : World} (h : TK w g E F wr) (hu : Up wr w') : TK w g E F w' := ⟨h.up.trans hu, h.ge, Nat.lt_of_lt_of_le h.lt hu.size, fun k hk => cell_up (h.c k hk) hu, fun k => frozen_up' (h.fz k) h.lt hu⟩
theorem TK.set {w : World} {g E : Nat} {F G : Nat → Int} {wr : World} (h : TK w g E F wr) {k : Nat} (hk : k < E) (x : Int) (hG : ∀ i, i < E → G i = if i = k then x else F i) : TK w g E G (wr.setCell ⟨g, k, none⟩ (.int .i64 x)) := by
  have hkp : Kp (fun b => b ≠ g) wr (wr.setCell ⟨g, k, none⟩ (.int .i64 x)) := Kp.set _ _ (fun q => q rfl) _
  have hge := h.ge
  have k1 : Kp (fun b => b < w.heap.size) w (wr.setCell ⟨g, k, none⟩ (.int .i64 x)) := ⟨hkp.os.trans h.up.os, hkp.tape.trans h.up.tape, hkp.output.trans h.up.output, Nat.le_trans h.up.size hkp.size, fun b hb hl => (hkp.block b (by show b ≠ g; omega) (Nat.lt_of_lt_of_le hl h.up.size)).trans (h.up.block b hl)⟩
  refine ⟨k1.up fun b hb => hb, h.ge, Nat.lt_of_lt_of_le h.lt hkp.size, fun i hi => ?_, fun i => by rw [World.frozen?_setCell]; exact h.fz i⟩
  rw [hG i hi]
  by_cases e : i = k
  · subst e
    rw [if_pos rfl]
    exact World.cell?_setCell_same _ _ _ (h.c i hi)
  · rw [if_neg e]
    exact cell_other (h.c i hi) (Or.inr (by show i ≠ k; omega))
theorem info3 : (Try.prog.info? 3).map (fun i => (i.zero, i.size, i.bytes)) = some (some (.int .i64 0), 1, 8) := by kernel_rfl
theorem made3 (n : Nat) (hn : n ≤ 1000) : ∃ A : Array Value, (∀ i, i < n → A[i]? = some (.int .i64 0)) ∧ (∀ w, (Instr.makeSlice 55 (.int .i64 n) (.int .i64 n)).run Try.prog w = .ok (.slice (some ⟨w.heap.size, 0, none⟩) n n) (w.alloc (.cells A 3))) := by
  obtain ⟨i0, hi, hz0, hz1, hz2⟩ := info_parts info3
  refine ⟨madeCells (Value.int .i64 0).cells (n * 1), fun i hi => ?_, fun w => ?_⟩
  · have e : (Value.int .i64 0).cells = #[.int .i64 0] := rfl
    rw [e]
    unfold madeCells
    simp [show i < n by omega, Nat.mod_one]
  · have := run_make (P := Try.prog) w 55 3 i0 _ Try.underlying55 hi hz0 .i64 .i64 n n (by omega) (by omega) (by rw [hz2]; omega) (by omega)
    rw [hz1] at this
    simpa using this
theorem TK.start {w : World} {E : Nat} {A : Array Value} (h : ∀ i, i < E → A[i]? = some (.int .i64 0)) : TK w w.heap.size E (fun k => if k < 0 then -1 else 0) (w.alloc (.cells A 3)) := by
  have e := heap_alloc_last w (.cells A 3)
  refine ⟨Up.alloc _ _, Nat.le_refl _, (Array.getElem?_eq_some_iff.1 e).1, fun k hk => ?_, fun k => (row_cell e k).2⟩
  rw [(row_cell e k).1, h k hk, if_neg (by omega)]
/-- What ticks leaves. -/
def TicR (w : World) (E : Nat) (D : List Sl) (e : Ending) (w' : World) : Prop := ∃ g, e = .returned (.tuple #[.slice (some ⟨g, 0, none⟩) E E, .bool true]) ∧ Hid (TK w g E (fun k => tkA D (k : Int)) w')
set_option maxRecDepth 200000 in
set_option maxHeartbeats 8000000 in
theorem t21 {w : World} {b : Nat} {p : Option Addr} {n cap : Nat} {D : List Sl} (h : SO b w (.slice p n cap) D) {E : Nat} (hE : E ≤ 1000) (hc : Chn 0 D E) : Calls Try.prog 21 #[.slice p n cap, .int .i64 E] w (TicR w E D) := by
  have HSO : Hid (SO b w (.slice p n cap) D) := h
  have hl := SO.len h
  have HCH : Hid (Chn 0 D E) := hc
  have hn := hc.len
  rw [hl] at hn
  have HLEN : Hid (D.length = n) := hl
  obtain ⟨A, hA, hM⟩ := made3 E hE
  have HTK : Hid (TK w w.heap.size E (fun k => if k < 0 then -1 else 0) (w.alloc (.cells A 3))) := TK.start hA
  clear h hc hA hl
  go_enter Try.func21, Try.ntmps21
  go_wp2_with fail
  clear hM
  generalize w.alloc (.cells A 3) = W1 at *
  generalize hg : w.heap.size = g at HTK ⊢
  clear hg
  go_loopw [7] (fun v7 wr => ∃ j : Nat, j ≤ E ∧ v7 = .int .i64 j ∧ Hid (TK w g E (fun k => if k < j then -1 else 0) wr)) (fun v7 _ => E - (intOf v7).toNat)
  case atStart => exact ⟨0, by omega, rfl, HTK⟩
  case round =>
    clear HTK
    obtain ⟨j, hj, rfl, HTK⟩ := hrel
    rename World => wr
    have y0 : (0 : Int) ≤ (j : Int) := by omega
    by_cases hjE : j < E
    · have b0 : (j : Int) < (E : Int) := by omega
      have c0 := HTK.out.c j hjE
      have c1 := HTK.out.fz j
      simp only [Nat.lt_irrefl, if_false] at c0
      go_wp2_with fail
      go_roundw
      case rel => exact ⟨j + 1, by omega, by go_num, HTK.out.set hjE (-1) (fun i _ => by
        by_cases e : i = j
        · rw [if_pos (by omega), if_pos e]
        · rw [if_neg e]
          by_cases q : i < j
          · rw [if_pos (by omega), if_pos q]
          · rw [if_neg (by omega), if_neg q])⟩
      case measure => simp [intOf]; omega
    · have b0 : ¬ (j : Int) < (E : Int) := by omega
      have HT1 : Hid (TK w g E (fun k => tkA (D.take 0) (k : Int)) wr) := HTK.out.congr (fun k hk => by rw [if_pos (by omega)]; rfl)
      clear HTK
      go_wp2_with fail
      go_loopw [8, 9, 10] (fun v8 v9 _ wr => ∃ (i : Nat) (at' : Int), i ≤ n ∧ v9 = .int .i64 i ∧ v8 = .int .i64 at' ∧ Hid (TK w g E (fun k => tkA (D.take i) (k : Int)) wr) ∧ Hid (Chn 0 (D.take i) at' ∧ Chn at' (D.drop i) E)) (fun _ v9 _ _ => n - (intOf v9).toNat)
      case atStart => exact ⟨0, 0, by omega, rfl, rfl, HT1, Int.le_refl _, HCH.out⟩
      case round =>
        clear HT1
        obtain ⟨i, at', hi, rfl, rfl, HTK, HCC⟩ := hrel
        rename World => wv
        have y1 : (0 : Int) ≤ (i : Int) := by omega
        by_cases hin : i < n
        · have b1 : (i : Int) < (n : Int) := by omega
          obtain ⟨g0, hp, hg1, hg2, hs⟩ := HSO.out.sl (by omega)
          have hsl := hs i hin
          have x := hsl.up HTK.out.up
          have hget : D[i]? = some (D.getD i Sl.zero) := by
            have := HLEN.out
            rw [List.getD_eq_getElem?_getD, List.getElem?_eq_getElem (by omega)]
            rfl
          generalize D.getD i Sl.zero = s at *
          obtain ⟨st, sf, se, sl⟩ := s
          have HGET : Hid (D[i]? = some ⟨st, sf, se, sl⟩) := hget
          obtain ⟨x0, x1, x2, -⟩ := x
          simp only at x0 x1 x2
          obtain ⟨hjl, hjs⟩ := List.getElem?_eq_some_iff.1 hget
          obtain ⟨hc0, hc1⟩ := HCC.out
          rw [List.drop_eq_getElem_cons hjl, hjs] at hc1
          obtain ⟨q1, q2, q3⟩ := hc1
          have HC3 : Hid (Chn se (D.drop (i + 1)) E) := q3
          replace q3 := Chn.le q3
          have q4 := Chn.le hc0
          simp only at q1 q2 q3
          have HC0 : Hid (Chn 0 (D.take i) at') := hc0
          have HS0 : Hid (SlAt w g0 (i * 4) ⟨st, sf, se, sl⟩) := hsl
          clear hs hget hjl hjs hc0 hsl
          obtain ⟨fa, rfl⟩ : ∃ fa : Nat, sf = fa := ⟨sf.toNat, by omega⟩
          obtain ⟨ea, rfl⟩ : ∃ ea : Nat, se = ea := ⟨se.toNat, by omega⟩
          have n1 : fa < ea := by omega
          have n2 : ea ≤ E := by omega
          have HDT : Hid (D.take (i + 1) = D.take i ++ [⟨st, fa, ea, sl⟩]) := by rw [List.take_add_one, HGET.out]; rfl
          have d1 : decide ((fa : Int) < at') = false := by simp; omega
          have d2 : decide ((ea : Int) ≤ (fa : Int)) = false := by simp; omega
          have d3 : decide ((E : Int) < (ea : Int)) = false := by simp; omega
          have lg0 : g0 < wv.heap.size := Nat.lt_of_lt_of_le hg2 HTK.out.up.size
          subst hp
          go_upto_region 10 with fail
          go_quiet (fail)
          have HT0 : Hid (TK w g E (fun k => if fa ≤ k ∧ k < fa then st else tkA (D.take i) (k : Int)) wv) := HTK.out.congr (fun k _ => by rw [if_neg (by omega)])
          have HN1 : Hid (at' ≤ (fa : Int)) := q1
          go_wp2_with fail
          clear x0 x1 x2 d1 d2 d3 q1 q4
          go_loopw [10] (fun v10 wr => ∃ kk : Nat, fa ≤ kk ∧ kk ≤ ea ∧ v10 = .int .i64 kk ∧ Hid (TK w g E (fun k => if fa ≤ k ∧ k < kk then st else tkA (D.take i) (k : Int)) wr)) (fun v10 _ => ea - (intOf v10).toNat)
          case atStart => exact ⟨fa, by omega, by omega, rfl, HT0.out.upp (Up.drewN _ _)⟩
          case round =>
            clear HT0
            obtain ⟨kk, hk1, hk2, rfl, HTI⟩ := hrel
            rename World => wk
            obtain ⟨x0, x1, x2, -⟩ := HS0.out.up HTI.out.up
            simp only at x0 x1 x2
            have lg1 : g0 < wk.heap.size := Nat.lt_of_lt_of_le hg2 HTI.out.up.size
            have y2 : (0 : Int) ≤ (kk : Int) := by omega
            have hne : g0 ≠ g := by have := HTI.out.ge; omega
            by_cases hke : kk < ea
            · have e1 : (kk : Int) < (ea : Int) := by omega
              have e2 : (kk : Int) < (E : Int) := by omega
              have hkE : kk < E := by omega
              have c0 := HTI.out.c kk hkE
              have c1 := HTI.out.fz kk
              generalize (if fa ≤ kk ∧ kk < kk then st else tkA (D.take i) (kk : Int)) = old at c0
              go_wp2_with fail
              go_roundw
              case rel => exact ⟨kk + 1, by omega, by omega, by go_num, HTI.out.set hkE st (fun i' _ => by
                by_cases e : i' = kk
                · rw [if_pos (by omega), if_pos e]
                · rw [if_neg e]
                  by_cases q : fa ≤ i' ∧ i' < kk
                  · rw [if_pos (by omega), if_pos q]
                  · rw [if_neg (by omega), if_neg q])⟩
              case measure => simp [intOf]; omega
            · have e1 : ¬ (kk : Int) < (ea : Int) := by omega
              have HT2 : Hid (TK w g E (fun k => tkA (D.take (i + 1)) (k : Int)) wk) := HTI.out.congr (fun k _ => by
                rw [HDT.out, tkA_app]
                by_cases q : fa ≤ k ∧ k < kk
                · rw [if_pos q, if_pos (by show (fa : Int) ≤ k ∧ (k : Int) < ea; omega)]
                · rw [if_neg q, if_neg (by show ¬ ((fa : Int) ≤ k ∧ (k : Int) < ea); omega)])
              have HC5 : Hid (Chn 0 (D.take (i + 1)) ea) := by
                rw [HDT.out]
                exact Chn.app (l := D.take i) (r := [⟨st, fa, ea, sl⟩]) (b := at') ⟨HN1.out, q2, Int.le_refl _⟩ HC0.out
              go_wp2_with fail
              go_roundw
              case rel => exact ⟨i + 1, ea, by omega, by go_num, rfl, HT2, ⟨HC5.out, HC3.out⟩⟩
              case measure => simp [intOf]; omega
        · have b1 : ¬ (i : Int) < (n : Int) := by omega
          have hfin := HTK.out
          rw [List.take_of_length_le (by have := HLEN.out; omega)] at hfin
          have HF : Hid (TK w g E (fun k => tkA D (k : Int)) wv) := hfin
          clear hfin
          go_wp2_with fail
          go_ret2
          exact ⟨g, rfl, HF⟩
end Go.Proofs.Ytjklaemhfhakhaa
/- PlanShares: what stands behind 420 ticks. -/
namespace Go.Proofs.Ytjklaemhfhakhaa
open Go.ChangeShapes Go.WideShapes Go.ChangeAt Go.RowKit

theorem loadS_420 {a d e l : Nat} (hd : d ∣ 420) (he : e ∣ 420) (hl : l ≤ 12) {B : Nat} (ha : a + 12 ≤ B) (hB : B ≤ 4611686018427387904 / 421) : ∃ a' d', loadS a d e l = some (a', d') ∧ d' ∣ 420 ∧ a' + 12 ≤ 421 * B := by
  have d0 : 0 < d := Nat.pos_of_dvd_of_pos hd (by decide)
  have e0 : 0 < e := Nat.pos_of_dvd_of_pos he (by decide)
  have hg : 0 < Nat.gcd d e := Nat.gcd_pos_of_pos_left _ d0
  have k1 : e / Nat.gcd d e ≤ 420 := Nat.le_trans (Nat.div_le_self _ _) (Nat.le_of_dvd (by decide) he)
  have k2 : d / Nat.gcd d e ≤ 420 := Nat.le_trans (Nat.div_le_self _ _) (Nat.le_of_dvd (by decide) hd)
  have hD : d / Nat.gcd d e * e ∣ 420 := by
    have h1 := Nat.lcm_dvd hd he
    have h2 : Nat.lcm d e = d / Nat.gcd d e * e := by
      obtain ⟨d1, hd1⟩ := Nat.gcd_dvd_left d e
      unfold Nat.lcm
      have q1 : d / Nat.gcd d e = d1 := by rw [Nat.div_eq_of_eq_mul_right hg hd1]
      rw [q1]
      conv => lhs; arg 1; rw [hd1]
      rw [Nat.mul_assoc, Nat.mul_div_cancel_left _ hg]
    rwa [h2] at h1
  have hDle := Nat.le_of_dvd (by decide) hD
  have n1 : a * (e / Nat.gcd d e) ≤ a * 420 := Nat.mul_le_mul_left _ k1
  have n2 : l * (d / Nat.gcd d e) ≤ 12 * 420 := Nat.mul_le_mul hl k2
  unfold loadS
  simp only
  have hN : a * (e / Nat.gcd d e) + l * (d / Nat.gcd d e) ≤ a * 420 + 12 * 420 := by omega
  generalize a * (e / Nat.gcd d e) + l * (d / Nat.gcd d e) = N at *
  rw [if_neg (by omega)]
  refine ⟨_, _, rfl, Nat.dvd_trans (Nat.div_dvd_of_dvd (Nat.gcd_dvd_right _ _)) hD, ?_⟩
  have := Nat.div_le_self N (Nat.gcd N (d / Nat.gcd d e * e))
  omega
theorem loadN_420 {E L : Nat → Nat} : ∀ k, k ≤ 5 → (∀ i, i < k → E i ∣ 420 ∧ L i ≤ 12) → ∃ a d, loadN E L k = some (a, d) ∧ d ∣ 420 ∧ a + 12 ≤ 12 * 421 ^ k
  | 0, _, _ => ⟨0, 1, rfl, ⟨420, rfl⟩, by decide⟩
  | k + 1, hk, h => by
    obtain ⟨a, d, h1, h2, h3⟩ := loadN_420 k (by omega) (fun i hi => h i (by omega))
    have hp : 421 ^ k ≤ 421 ^ 4 := Nat.pow_le_pow_right (by decide) (by omega)
    have h5 : 421 ^ 4 = 31414372081 := by decide
    obtain ⟨a', d', k1, k2, k3⟩ := loadS_420 h2 (h k (by omega)).1 (h k (by omega)).2 h3 (by omega)
    rw [loadN, h1]
    refine ⟨a', d', k1, k2, ?_⟩
    rw [Nat.pow_succ]
    omega
theorem dvd420 {e : Int} (h1 : 1 ≤ e) (h2 : e ≤ 7) : e ∣ 420 := by
  rcases (show e = 1 ∨ e = 2 ∨ e = 3 ∨ e = 4 ∨ e = 5 ∨ e = 6 ∨ e = 7 by omega) with rfl | rfl | rfl | rfl | rfl | rfl | rfl <;> decide
theorem load_ok {N : Nat} {T : Nat → Tk} (hN : N ≤ 5) (h : ∀ i, i < N → MayT (T i).e (T i).l ∧ (T i).e ≤ 7) : ∃ a d, loadN (fun i => (T i).e.toNat) (fun i => (T i).l.toNat) N = some (a, d) ∧ d ≤ 420 ∧ a ≤ 200000000000000 := by
  obtain ⟨a, d, h1, h2, h3⟩ := loadN_420 (E := fun i => (T i).e.toNat) (L := fun i => (T i).l.toNat) N hN (fun i hi => by
    obtain ⟨⟨m1, m2, m3⟩, k⟩ := h i hi
    refine ⟨?_, by show (T i).l.toNat ≤ 12; omega⟩
    have e : (((T i).e.toNat : Nat) : Int) = (T i).e := by omega
    have d := dvd420 (e := (T i).e) (by omega) k
    rw [← e] at d
    exact Int.natCast_dvd_natCast.1 d)
  have hp : 421 ^ N ≤ 421 ^ 5 := Nat.pow_le_pow_right (by decide) hN
  have h5 : 421 ^ 5 = 13225450646101 := by decide
  exact ⟨a, d, h1, Nat.le_of_dvd (by decide) h2, by omega⟩
theorem last_of {c : Crs} (h : c.tl = []) : c.last = c.hd := by
  obtain ⟨hd, tl, dn⟩ := c
  subst h
  rfl
theorem share_all {N : Nat} {T : Nat → Tk} (hm : ∀ i, i < N → MayT (T i).e (T i).l ∧ (T i).e ≤ 7) : Chn 0 (untilN N 420 65536 (newP T)).1 420 ∧ (∀ i, i < N → ((untilN N 420 65536 (newP T)).2.c i).last.e = (T i).e ∧ ((untilN N 420 65536 (newP T)).2.c i).last.l = (T i).l) ∧ (Light N (fun i => (T i).e) (fun i => (T i).l) → ∀ i, i < N → ∀ q : Nat, ((q : Int) + 1) * (T i).e ≤ 420 → cntA (untilN N 420 65536 (newP T)).1 i (q * (T i).e) (T i).e.toNat = (T i).l) := by
  have hs := SI.start (T := T) (n := N) (fun i hi => (hm i hi).1)
  have z0 : (newP T).now = 0 := rfl
  obtain ⟨i1, i2, i3, i4, i5, i6⟩ := hs.until (tick := 420) (by omega) 65536 (newP T) (by rw [z0]; omega) (by rw [z0]; omega)
  rw [z0] at i3
  refine ⟨i3, fun i hi => ?_, fun hl i hi q hq => ?_⟩
  · rw [last_of (i1.fits.tl i hi)]
    exact ⟨i1.fits.e i hi, i1.fits.l i hi⟩
  · have ls := (LS.start (M := 7) hm hl).mono (B' := 420) (by omega)
    obtain ⟨u1, u2⟩ := ls.until hl 420 (by omega) (by omega) 65536
    obtain ⟨w1, w2⟩ := SI.untilW (tick := 420) (by omega) hl 65536 (newP T) hs ls.feas
    obtain ⟨⟨m1, m2, m3⟩, m4⟩ := hm i hi
    have hn := i1.nxNow u2.feas hi (by rw [i2]; exact dvd420 (by omega) m4)
    rw [i2] at hn
    have h1 := w2 i hi q
    have h2 : wq (fun i => (T i).e) (fun i => (T i).l) (untilN N 420 65536 (newP T)).2 i q = (T i).l := by
      unfold wq
      rw [hn, if_pos hq]
    have h3 : wq (fun i => (T i).e) (fun i => (T i).l) (newP T) i q = 0 := by
      unfold wq
      have : ¬ ((q : Int) + 1) * (T i).e ≤ 0 := by
        have := Int.mul_pos (show (0 : Int) < (q : Int) + 1 by omega) (show 0 < (T i).e by omega)
        omega
      rw [if_neg (by show ¬ ((q : Int) + 1) * (T i).e ≤ 0; exact this)]
      split <;> rfl
    rw [h2, h3] at h1
    have h4 := cnt_wn (E := (T i).e) (t := i) (by omega) (by omega) i3 (fun s hs' hi' => w1 s hs' i hi') q _ (Nat.le_refl _)
    rw [List.take_length] at h4
    rw [h4]
    omega
end Go.Proofs.Ytjklaemhfhakhaa
/- PlanRows: what the loops keep. -/
namespace Go.Proofs.Ytjklaemhfhakhaa
open Go.ChangeShapes Go.WideShapes Go.ChangeAt Go.RowKit

theorem fl4_one (D : List Sl) : ∀ u ∈ fl4 D, u.oneCell' = true := by
  intro u hu
  obtain ⟨s, _, h⟩ := List.mem_flatMap.1 hu
  exact sl_one s u h
theorem SO.cells {b : Nat} {w : World} {q : Option Addr} {n cq : Nat} {S : List Sl} (h : SO b w (.slice q n cq) S) (hp : 0 < n) : ∃ g, q = some ⟨g, 0, none⟩ ∧ ∀ (j : Nat) (u : Value), (fl4 S)[j]? = some u → w.cell? ((⟨g, 0, none⟩ : Addr).add j) = some u := by
  have hl := SO.len h
  rcases h.2 with ⟨h0, h1⟩ | ⟨g, cap', cur, e, h1, h2, h3, h4, h5, h6⟩
  · omega
  · simp only [Value.slice.injEq] at e
    obtain ⟨rfl, rfl, rfl⟩ := e
    refine ⟨g, rfl, fun j u hu => ?_⟩
    rw [addr_add, Nat.zero_add]
    rw [← h6, List.getElem?_take] at hu
    split at hu
    · unfold World.cell?
      simp only [h2]
      rw [Array.getElem?_toList] at hu
      simpa using hu
    · cases hu
theorem app_so {w : World} {base b' m c ty : Nat} {p q : Option Addr} {n cq : Nat} {D S : List Sl} (hown : SO base w (.slice p m c) D) (hv : SO b' w (.slice q n cq) S) (hmn : m + n ≤ 4000000) (hbase : base ≤ w.heap.size) :
    ∃ p' c' w', (Builtin.append_ #[45, 45] ty #[.slice p m c, .slice q n cq]).run Try.prog w = .ok (.slice p' (m + n) c') w' ∧ SO base w' (.slice p' (m + n) c') (D ++ S) ∧ w.grownBy w' (Value.slice p m c).ownBlock := by
  obtain ⟨i0, hi, hz0, hz1, hz2⟩ := info_parts info42
  have hl := SO.len hown
  have hs := SO.len hv
  rcases Nat.eq_zero_or_pos n with rfl | hp
  · have hS : S = [] := List.length_eq_zero_iff.1 hs
    subst hS
    have hmc : m ≤ c := by
      rcases hown.2 with ⟨h0, h1⟩ | ⟨g, cap', cur, e, h1, h2, h3, h4, h5, h6⟩
      · simp only [Value.slice.injEq] at h0; omega
      · simp only [Value.slice.injEq] at e; omega
    have hqf : ∃ a, q = none ∨ q = some a := by
      cases q with
      | none => exact ⟨⟨0, 0, none⟩, Or.inl rfl⟩
      | some a => exact ⟨a, Or.inr rfl⟩
    refine ⟨p, c, w, ?_, ?_, World.grownBy.refl _ _⟩
    · refine run_append_nothing w 45 45 ty 42 i0 Try.underlying45 hi _ m c hmc _ ?_
      cases q with
      | none => exact Src.ofNil w Try.underlying45 cq
      | some a => exact Src.ofSlice w Try.underlying45 a 0 cq [] (by simp) (fun j u h => by simp at h) (fun u h => by cases h)
    · simpa using hown
  · obtain ⟨g0, rfl, hr⟩ := hv.cells hp
    have hown' : w.ownsRow base 42 4 (.slice p m c) m (fl4 D) := by have := hown; unfold SO at this; rwa [hl] at this
    obtain ⟨g, cap, w', h1, h2, h3, h4, _⟩ := run_append_lies (P := Try.prog) w 45 ty base 42 i0 (.agg #[.int .i64 0, .int .i64 0, .int .i64 0, .bool false]) 4 32 Try.underlying45 hi hz0 hz1 hz2 rfl (by omega) (.slice p m c) m (fl4 D) hown' ⟨g0, 0, none⟩ n cq (fl4 S) (by rw [fl4_len, hs]) hr (fl4_one _) hp (by unfold maxLen; omega) (by omega) hbase w.heap.size rfl
    refine ⟨_, cap, w', h1, ?_, h3⟩
    unfold SO fl4 at *
    rw [List.length_append, hs, hl, List.flatMap_append]
    exact h2
theorem wpList_app_so {ops : Array Oper} {rest : List Oper} {o : Oper} {a : Act} {w : World} {Q : Exit → Act → World → Prop} (hgd : o.guard = none) (s x : Operand)
    (ho : o.op = .call { callee := .builtin .append, args := #[s, x], argTypes := #[45, 45] })
    (base b' m c : Nat) (p q : Option Addr) (n cq : Nat) (D S : List Sl) (hs : a.eval s = .slice p m c) (hx : a.eval x = .slice q n cq) (hown : SO base w (.slice p m c) D) (hv : SO b' w (.slice q n cq) S) (hmn : m + n ≤ 4000000) (hbase : base ≤ w.heap.size)
    (h : ∀ p' c' w', SO base w' (.slice p' (m + n) c') (D ++ S) → w.grownBy w' (Value.slice p m c).ownBlock → wpList Try.prog ops Q rest (a.put o.dst (.slice p' (m + n) c')) w') : wpList Try.prog ops Q (o :: rest) a w := by
  refine wpList_plain hgd fun K hK => ?_
  obtain ⟨p', c', w', h1, h2, h3⟩ := app_so (ty := o.type) hown hv hmn hbase
  unfold Oper.wp execOp
  simp only [ho, resolve, invoke, builtin, Sem.run_bind, Sem.run_pure, Result.andThen_ok, List.map_toArray, List.map_cons, List.map_nil, hs, hx, h1]
  exact hK _ _ (h p' c' w' h2 h3)
/-- A plan that goes on to a tick, and what it has told. -/
structure QR (N : Nat) (T : Nat → Tk) (last : Int) (W : List Sl) (p : Pl) (D : List Sl) : Prop where
  si : SI N (fun i => (T i).e) (fun i => (T i).l) (fun i => (T i).r) p
  now : 0 ≤ p.now ∧ p.now ≤ last
  ch : Chn 0 D p.now
  sp : ∀ y, tkF (untilN N last 65536 p).1 (tkA D y) y = tkA W y
theorem QR.start {N : Nat} {T : Nat → Tk} {last : Int} (hm : ∀ i, i < N → MayT (T i).e (T i).l) (h0 : 0 ≤ last) : QR N T last (untilN N last 65536 (newP T)).1 (newP T) [] :=
  ⟨SI.start hm, ⟨Int.le_refl _, h0⟩, Int.le_refl _, fun _ => rfl⟩
theorem QR.step {N : Nat} {T : Nat → Tk} {last : Int} {W D : List Sl} {p : Pl} (h : QR N T last W p D) (hL : last ≤ 1000) {x : Int} (h1 : p.now ≤ x) (h2 : x ≤ last) : QR N T last W (untilN N x 65536 p).2 (D ++ (untilN N x 65536 p).1) ∧ (untilN N x 65536 p).2.now = x ∧ D.length + (untilN N x 65536 p).1.length ≤ 1000 := by
  have hn := h.now
  obtain ⟨i1, i2, i3, i4, i5, i6⟩ := h.si.until (tick := x) (by omega) 65536 p h1 (by omega)
  obtain ⟨s1, s2⟩ := until_split (T := last) (x := x) (by omega) h2 65536 p h.si.fits h.si.pb h1 (by omega)
  have hc : Chn 0 (D ++ (untilN N x 65536 p).1) x := Chn.app i3 h.ch
  refine ⟨⟨i1, by rw [i2]; omega, by rw [i2]; exact hc, fun y => ?_⟩, i2, ?_⟩
  · have e : tkA (D ++ (untilN N x 65536 p).1) y = tkF (untilN N x 65536 p).1 (tkA D y) y := tkF_app _ _ _ _
    rw [e, s2, h.sp]
  · have := hc.len
    rw [List.length_append] at this
    omega
theorem QR.last {N : Nat} {T : Nat → Tk} {last : Int} {W D : List Sl} {p : Pl} (h : QR N T last W p D) : ∀ y, tkA (D ++ (untilN N last 65536 p).1) y = tkA W y := fun y => by
  have e : tkA (D ++ (untilN N last 65536 p).1) y = tkF (untilN N last 65536 p).1 (tkA D y) y := tkF_app _ _ _ _
  rw [e, h.sp]
structure SR (N : Nat) (T : Nat → Tk) (last : Int) (W : List Sl) (lo B : Nat) (W6 : World) (bp : Nat) (v : Value) (D : List Sl) (p : Pl) (wr : World) : Prop where
  pl : ∃ L, PU wr L N p ∧ L.bp = bp ∧ ∀ b, L.Own N b → lo ≤ b ∧ b < B
  so : SO W6.heap.size wr v D
  bse : B ≤ W6.heap.size ∧ W6.heap.size ≤ wr.heap.size
  kp : Kp (fun b => ¬ (lo ≤ b ∧ b < B)) W6 wr
  qs : QR N T last W p D
structure SX (N : Nat) (T : Nat → Tk) (last : Int) (W : List Sl) (lo B : Nat) (W6 : World) (bp : Nat) (v v2 : Value) (D S : List Sl) (p : Pl) (wr : World) : Prop where
  pl : ∃ L, PU wr L N p ∧ L.bp = bp ∧ ∀ b, L.Own N b → lo ≤ b ∧ b < B
  so : SO W6.heap.size wr v D
  so2 : SO W6.heap.size wr v2 S
  bse : B ≤ W6.heap.size ∧ W6.heap.size ≤ wr.heap.size
  kp : Kp (fun b => ¬ (lo ≤ b ∧ b < B)) W6 wr
  qs : QR N T last W p (D ++ S)
theorem Kp.two {F : Nat → Prop} {w w1 w2 : World} (h : Kp F w w1) {G : Nat → Prop} (k : Kp G w1 w2) (hG : ∀ b, F b → b < w.heap.size → G b) : Kp F w w2 :=
  ⟨k.os.trans h.os, k.tape.trans h.tape, k.output.trans h.output, Nat.le_trans h.size k.size, fun b hb hl => (k.block b (hG b hb hl) (Nat.lt_of_lt_of_le hl h.size)).trans (h.block b hb hl)⟩
theorem SR.at18 {N : Nat} {T : Nat → Tk} {last : Int} {W : List Sl} {lo B : Nat} {W6 : World} {bp : Nat} {pp : Option Addr} {ln cap : Nat} {D : List Sl} {p : Pl} {wr : World} (h : SR N T last W lo B W6 bp (.slice pp ln cap) D p wr) (hN : N ≤ 12) (hL : last ≤ 1000) {x : Int} (h1 : p.now ≤ x) (h2 : x ≤ last) :
    Calls Try.prog 18 #[.pointer (some ⟨bp, 0, none⟩), .int .i64 x] wr (fun e w' => ∃ qq len c2 S p', e = .returned (.slice qq len c2) ∧ Hid (SX N T last W lo B W6 bp (.slice pp ln cap) (.slice qq len c2) D S p' w') ∧ Hid (p'.now = x) ∧ Hid (ln + len ≤ 1000) ∧ Hid (x = last → ∀ y, tkA (D ++ S) y = tkA W y)) := by
  obtain ⟨L, k1, rfl, k2⟩ := h.pl
  have hn := h.qs.now
  obtain ⟨q1, q2, q3⟩ := h.qs.step hL h1 h2
  have := t18 k1.pw k1.ok k1.pb (by omega) x (by omega)
  rw [show min x 1152921504606846976 = x by omega] at this
  refine this.mono ?_
  rintro e w' ⟨qq, c2, L', rfl, j1, j2, j3, j4⟩
  have hl := SO.len h.so
  have hb := h.bse
  refine ⟨qq, _, c2, _, _, rfl, ⟨⟨L', ⟨j2, j4.out.ok, j3⟩, j4.out.bp, fun b hb => k2 b (j4.out.own b hb)⟩, ?_, owns_base j1.out h.bse.2, ⟨h.bse.1, Nat.le_trans h.bse.2 j4.out.kp.size⟩, h.kp.two j4.out.kp (fun b hb _ hq => hb (k2 b hq)), q1⟩, q2, by rw [hl] at q3; exact q3, fun e => by subst e; exact h.qs.last⟩
  refine h.so.kp j4.out.kp fun r hr => ?_
  intro hq
  have h3 := (World.ownsRow.lt h.so r hr).1
  have h4 := (k2 r hq).2
  omega
theorem SX.app {N : Nat} {T : Nat → Tk} {last : Int} {W : List Sl} {lo B : Nat} {W6 : World} {bp : Nat} {v v2 v' : Value} {D S : List Sl} {p : Pl} {wr w' : World} (h : SX N T last W lo B W6 bp v v2 D S p wr) (h1 : SO W6.heap.size w' v' (D ++ S)) (h2 : wr.grownBy w' v.ownBlock) : SR N T last W lo B W6 bp v' (D ++ S) p w' := by
  obtain ⟨L, k1, k2, k3⟩ := h.pl
  have hb := h.bse
  have hr : ∀ r, v.ownBlock = some r → W6.heap.size ≤ r := fun r hr => (World.ownsRow.lt h.so r hr).1
  refine ⟨⟨L, ⟨k1.pw.kp (Kp.grown h2) fun b hb e => ?_, k1.ok, k1.pb⟩, k2, k3⟩, h1, ⟨h.bse.1, Nat.le_trans h.bse.2 h2.size⟩, h.kp.two (Kp.grown h2) (fun b _ hl e => ?_), h.qs⟩
  · have := hr b e.symm
    have := (k3 b hb).2
    omega
  · have := hr b e.symm
    omega
end Go.Proofs.Ytjklaemhfhakhaa

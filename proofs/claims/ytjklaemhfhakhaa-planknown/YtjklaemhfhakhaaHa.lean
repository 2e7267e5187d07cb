/- ticks: whose each tick is. -/
import Derived.Test.YtjklaemhfhakhaaMh
import Derived.Test.YtjklaemhfhakhaaGb
namespace Go.Proofs.Ytjklaemhfhakhaa
open Go.ChangeShapes Go.WideShapes Go.ChangeAt Go.RowKit

/-- A row of whole numbers of one's own. -/
structure TK (w : World) (g E : Nat) (F : Nat → Int) (wr : World) : Prop where
  up : Up w wr
  ge : w.heap.size ≤ g
  lt : g < wr.heap.size
  c : ∀ k, k < E → wr.cell? ⟨g, k, none⟩ = some (.int .i64 (F k))
  fz : ∀ k, wr.frozen? ⟨g, k, none⟩ = false
theorem TK.congr {w : World} {g E : Nat} {F G : Nat → Int} {wr : World} (h : TK w g E F wr) (hF : ∀ k, k < E → F k = G k) : TK w g E G wr := ⟨h.up, h.ge, h.lt, fun k hk => by rw [← hF k hk]; exact h.c k hk, h.fz⟩
theorem TK.upp {w : World} {g E : Nat} {F : Nat → Int} {wr w' : World} (h : TK w g E F wr) (hu : Up wr w') : TK w g E F w' := ⟨h.up.trans hu, h.ge, Nat.lt_of_lt_of_le h.lt hu.size, fun k hk => cell_up (h.c k hk) hu, fun k => frozen_up' (h.fz k) h.lt hu⟩
theorem TK.set {w : World} {g E : Nat} {F G : Nat → Int} {wr : World} (h : TK w g E F wr) {k : Nat} (hk : k < E) (x : Int) (hG : ∀ i, i < E → G i = if i = k then x else F i) : TK w g E G (wr.setCell ⟨g, k, none⟩ (.int .i64 x)) := by
  have hkp : Kp (fun b => b ≠ g) wr (wr.setCell ⟨g, k, none⟩ (.int .i64 x)) := Kp.set _ _ (fun q => q rfl) _
  have hge := h.ge
  have k1 : Kp (fun b => b < w.heap.size) w (wr.setCell ⟨g, k, none⟩ (.int .i64 x)) := ⟨hkp.os.trans h.up.os, hkp.tape.trans h.up.tape, hkp.output.trans h.up.output, Nat.le_trans h.up.size hkp.size, fun b hb hl => (hkp.block b (by show b ≠ g; omega) (Nat.lt_of_lt_of_le hl h.up.size)).trans (h.up.block b hl)⟩
  refine ⟨k1.up fun b hb => hb, h.ge, Nat.lt_of_lt_of_le h.lt hkp.size, fun i hi => ?_, fun i => by rw [World.frozen?_setCell]; exact h.fz i⟩
  rw [hG i hi]
  by_cases e : i = k
  · subst e
    rw [if_pos rfl]
    exact World.cell?_setCell_same _ _ _ (h.c i hi)
  · rw [if_neg e]
    exact cell_other (h.c i hi) (Or.inr (by show i ≠ k; omega))
theorem info3 : (Try.prog.info? 3).map (fun i => (i.zero, i.size, i.bytes)) = some (some (.int .i64 0), 1, 8) := by kernel_rfl
theorem made3 (n : Nat) (hn : n ≤ 1000) : ∃ A : Array Value, (∀ i, i < n → A[i]? = some (.int .i64 0)) ∧ (∀ w, (Instr.makeSlice 55 (.int .i64 n) (.int .i64 n)).run Try.prog w = .ok (.slice (some ⟨w.heap.size, 0, none⟩) n n) (w.alloc (.cells A 3))) := by
  obtain ⟨i0, hi, hz0, hz1, hz2⟩ := info_parts info3
  refine ⟨madeCells (Value.int .i64 0).cells (n * 1), fun i hi => ?_, fun w => ?_⟩
  · have e : (Value.int .i64 0).cells = #[.int .i64 0] := rfl
    rw [e]
    unfold madeCells
    simp [show i < n by omega, Nat.mod_one]
  · have := run_make (P := Try.prog) w 55 3 i0 _ Try.underlying55 hi hz0 .i64 .i64 n n (by omega) (by omega) (by rw [hz2]; omega) (by omega)
    rw [hz1] at this
    simpa using this
theorem TK.start {w : World} {E : Nat} {A : Array Value} (h : ∀ i, i < E → A[i]? = some (.int .i64 0)) : TK w w.heap.size E (fun k => if k < 0 then -1 else 0) (w.alloc (.cells A 3)) := by
  have e := heap_alloc_last w (.cells A 3)
  refine ⟨Up.alloc _ _, Nat.le_refl _, (Array.getElem?_eq_some_iff.1 e).1, fun k hk => ?_, fun k => (row_cell e k).2⟩
  rw [(row_cell e k).1, h k hk, if_neg (by omega)]
/-- What ticks leaves. -/
def TicR (w : World) (E : Nat) (D : List Sl) (e : Ending) (w' : World) : Prop := ∃ g, e = .returned (.tuple #[.slice (some ⟨g, 0, none⟩) E E, .bool true]) ∧ Hid (TK w g E (fun k => tkA D (k : Int)) w')
set_option maxRecDepth 200000 in
set_option maxHeartbeats 8000000 in
theorem t21 {w : World} {b : Nat} {p : Option Addr} {n cap : Nat} {D : List Sl} (h : SO b w (.slice p n cap) D) {E : Nat} (hE : E ≤ 1000) (hc : Chn 0 D E) : Calls Try.prog 21 #[.slice p n cap, .int .i64 E] w (TicR w E D) := by
  have HSO : Hid (SO b w (.slice p n cap) D) := h
  have hl := SO.len h
  have HCH : Hid (Chn 0 D E) := hc
  have hn := hc.len
  rw [hl] at hn
  have HLEN : Hid (D.length = n) := hl
  obtain ⟨A, hA, hM⟩ := made3 E hE
  have HTK : Hid (TK w w.heap.size E (fun k => if k < 0 then -1 else 0) (w.alloc (.cells A 3))) := TK.start hA
  clear h hc hA hl
  go_enter Try.func21, Try.ntmps21
  go_wp2_with fail
  clear hM
  generalize w.alloc (.cells A 3) = W1 at *
  generalize hg : w.heap.size = g at HTK ⊢
  clear hg
  go_loopw [7] (fun v7 wr => ∃ j : Nat, j ≤ E ∧ v7 = .int .i64 j ∧ Hid (TK w g E (fun k => if k < j then -1 else 0) wr)) (fun v7 _ => E - (intOf v7).toNat)
  case atStart => exact ⟨0, by omega, rfl, HTK⟩
  case round =>
    clear HTK
    obtain ⟨j, hj, rfl, HTK⟩ := hrel
    rename World => wr
    have y0 : (0 : Int) ≤ (j : Int) := by omega
    by_cases hjE : j < E
    · have b0 : (j : Int) < (E : Int) := by omega
      have c0 := HTK.out.c j hjE
      have c1 := HTK.out.fz j
      simp only [Nat.lt_irrefl, if_false] at c0
      go_wp2_with fail
      go_roundw
      case rel => exact ⟨j + 1, by omega, by go_num, HTK.out.set hjE (-1) (fun i _ => by
        by_cases e : i = j
        · rw [if_pos (by omega), if_pos e]
        · rw [if_neg e]
          by_cases q : i < j
          · rw [if_pos (by omega), if_pos q]
          · rw [if_neg (by omega), if_neg q])⟩
      case measure => simp [intOf]; omega
    · have b0 : ¬ (j : Int) < (E : Int) := by omega
      have HT1 : Hid (TK w g E (fun k => tkA (D.take 0) (k : Int)) wr) := HTK.out.congr (fun k hk => by rw [if_pos (by omega)]; rfl)
      clear HTK
      go_wp2_with fail
      go_loopw [8, 9, 10] (fun v8 v9 _ wr => ∃ (i : Nat) (at' : Int), i ≤ n ∧ v9 = .int .i64 i ∧ v8 = .int .i64 at' ∧ Hid (TK w g E (fun k => tkA (D.take i) (k : Int)) wr) ∧ Hid (Chn 0 (D.take i) at' ∧ Chn at' (D.drop i) E)) (fun _ v9 _ _ => n - (intOf v9).toNat)
      case atStart => exact ⟨0, 0, by omega, rfl, rfl, HT1, Int.le_refl _, HCH.out⟩
      case round =>
        clear HT1
        obtain ⟨i, at', hi, rfl, rfl, HTK, HCC⟩ := hrel
        rename World => wv
        have y1 : (0 : Int) ≤ (i : Int) := by omega
        by_cases hin : i < n
        · have b1 : (i : Int) < (n : Int) := by omega
          obtain ⟨g0, hp, hg1, hg2, hs⟩ := HSO.out.sl (by omega)
          have hsl := hs i hin
          have x := hsl.up HTK.out.up
          have hget : D[i]? = some (D.getD i Sl.zero) := by
            have := HLEN.out
            rw [List.getD_eq_getElem?_getD, List.getElem?_eq_getElem (by omega)]
            rfl
          generalize D.getD i Sl.zero = s at *
          obtain ⟨st, sf, se, sl⟩ := s
          have HGET : Hid (D[i]? = some ⟨st, sf, se, sl⟩) := hget
          obtain ⟨x0, x1, x2, -⟩ := x
          simp only at x0 x1 x2
          obtain ⟨hjl, hjs⟩ := List.getElem?_eq_some_iff.1 hget
          obtain ⟨hc0, hc1⟩ := HCC.out
          rw [List.drop_eq_getElem_cons hjl, hjs] at hc1
          obtain ⟨q1, q2, q3⟩ := hc1
          have HC3 : Hid (Chn se (D.drop (i + 1)) E) := q3
          replace q3 := Chn.le q3
          have q4 := Chn.le hc0
          simp only at q1 q2 q3
          have HC0 : Hid (Chn 0 (D.take i) at') := hc0
          have HS0 : Hid (SlAt w g0 (i * 4) ⟨st, sf, se, sl⟩) := hsl
          clear hs hget hjl hjs hc0 hsl
          obtain ⟨fa, rfl⟩ : ∃ fa : Nat, sf = fa := ⟨sf.toNat, by omega⟩
          obtain ⟨ea, rfl⟩ : ∃ ea : Nat, se = ea := ⟨se.toNat, by omega⟩
          have n1 : fa < ea := by omega
          have n2 : ea ≤ E := by omega
          have HDT : Hid (D.take (i + 1) = D.take i ++ [⟨st, fa, ea, sl⟩]) := by rw [List.take_add_one, HGET.out]; rfl
          have d1 : decide ((fa : Int) < at') = false := by simp; omega
          have d2 : decide ((ea : Int) ≤ (fa : Int)) = false := by simp; omega
          have d3 : decide ((E : Int) < (ea : Int)) = false := by simp; omega
          have lg0 : g0 < wv.heap.size := Nat.lt_of_lt_of_le hg2 HTK.out.up.size
          subst hp
          go_upto_region 10 with fail
          go_quiet (fail)
          have HT0 : Hid (TK w g E (fun k => if fa ≤ k ∧ k < fa then st else tkA (D.take i) (k : Int)) wv) := HTK.out.congr (fun k _ => by rw [if_neg (by omega)])
          have HN1 : Hid (at' ≤ (fa : Int)) := q1
          go_wp2_with fail
          clear x0 x1 x2 d1 d2 d3 q1 q4
          go_loopw [10] (fun v10 wr => ∃ kk : Nat, fa ≤ kk ∧ kk ≤ ea ∧ v10 = .int .i64 kk ∧ Hid (TK w g E (fun k => if fa ≤ k ∧ k < kk then st else tkA (D.take i) (k : Int)) wr)) (fun v10 _ => ea - (intOf v10).toNat)
          case atStart => exact ⟨fa, by omega, by omega, rfl, HT0.out.upp (Up.drewN _ _)⟩
          case round =>
            clear HT0
            obtain ⟨kk, hk1, hk2, rfl, HTI⟩ := hrel
            rename World => wk
            obtain ⟨x0, x1, x2, -⟩ := HS0.out.up HTI.out.up
            simp only at x0 x1 x2
            have lg1 : g0 < wk.heap.size := Nat.lt_of_lt_of_le hg2 HTI.out.up.size
            have y2 : (0 : Int) ≤ (kk : Int) := by omega
            have hne : g0 ≠ g := by have := HTI.out.ge; omega
            by_cases hke : kk < ea
            · have e1 : (kk : Int) < (ea : Int) := by omega
              have e2 : (kk : Int) < (E : Int) := by omega
              have hkE : kk < E := by omega
              have c0 := HTI.out.c kk hkE
              have c1 := HTI.out.fz kk
              generalize (if fa ≤ kk ∧ kk < kk then st else tkA (D.take i) (kk : Int)) = old at c0
              go_wp2_with fail
              go_roundw
              case rel => exact ⟨kk + 1, by omega, by omega, by go_num, HTI.out.set hkE st (fun i' _ => by
                by_cases e : i' = kk
                · rw [if_pos (by omega), if_pos e]
                · rw [if_neg e]
                  by_cases q : fa ≤ i' ∧ i' < kk
                  · rw [if_pos (by omega), if_pos q]
                  · rw [if_neg (by omega), if_neg q])⟩
              case measure => simp [intOf]; omega
            · have e1 : ¬ (kk : Int) < (ea : Int) := by omega
              have HT2 : Hid (TK w g E (fun k => tkA (D.take (i + 1)) (k : Int)) wk) := HTI.out.congr (fun k _ => by
                rw [HDT.out, tkA_app]
                by_cases q : fa ≤ k ∧ k < kk
                · rw [if_pos q, if_pos (by show (fa : Int) ≤ k ∧ (k : Int) < ea; omega)]
                · rw [if_neg q, if_neg (by show ¬ ((fa : Int) ≤ k ∧ (k : Int) < ea); omega)])
              have HC5 : Hid (Chn 0 (D.take (i + 1)) ea) := by
                rw [HDT.out]
                exact Chn.app (l := D.take i) (r := [⟨st, fa, ea, sl⟩]) (b := at') ⟨HN1.out, q2, Int.le_refl _⟩ HC0.out
              go_wp2_with fail
              go_roundw
              case rel => exact ⟨i + 1, ea, by omega, by go_num, rfl, HT2, ⟨HC5.out, HC3.out⟩⟩
              case measure => simp [intOf]; omega
        · have b1 : ¬ (i : Int) < (n : Int) := by omega
          have hfin := HTK.out
          rw [List.take_of_length_le (by have := HLEN.out; omega)] at hfin
          have HF : Hid (TK w g E (fun k => tkA D (k : Int)) wv) := hfin
          clear hfin
          go_wp2_with fail
          go_ret2
          exact ⟨g, rfl, HF⟩
end Go.Proofs.Ytjklaemhfhakhaa

/- Three rows that grow beside each other; a number that is small. -/
import Derived.Test.YtcgbmcnefolgcaaJf
import Derived.Test.YtcgbmcnefolgcaaEb
namespace Go.Proofs.Ytcgbmcnefolgcaa
open Go.ChangeShapes Go.WideShapes Go.ChangeAt Go.RowKit Go.Fl Go.Sort

theorem AB.turn {w0 w : World} {va vb : Value} {La Lb : List Nat} (h : AB w0 w va vb La Lb) : AB w0 w vb va Lb La := ⟨h.b, h.a, fun g e q => h.ap g q e, h.up⟩
/-- Where a third row grows, two others stay. -/
theorem AB.off {w0 w w' : World} {va vb vc : Value} {La Lb Lc : List Nat} {y : Nat} (h : AB w0 w vb vc Lb Lc) (h1 : AB w0 w va vb La Lb) (h2 : AB w0 w va vc La Lc) (hg : (w.alloc (.cells #[.float .f64 y] 24)).grownBy w' va.ownBlock) : AB w0 w' vb vc Lb Lc := by
  have hB : (w.alloc (.cells #[.float .f64 y] 24)).ownsRow w0.heap.size 24 1 vb Lb.length (Lb.map fe) := World.ownsRow.alloc h.a _
  have hC : (w.alloc (.cells #[.float .f64 y] 24)).ownsRow w0.heap.size 24 1 vc Lc.length (Lc.map fe) := World.ownsRow.alloc h.b _
  refine ⟨owns_grown hB hg (fun g e q => h1.ap g e q), owns_grown hC hg (fun g e q => h2.ap g e q), h.ap, ?_⟩
  have h3 : Up w0 (w.alloc (.cells #[.float .f64 y] 24)) := h.up.al _
  exact RowKit.Below.grown h3 hg (RowKit.Below.size h3) (fun j hj => (h1.a.lt j hj).1)
structure A3 (w0 w : World) (va vb vc : Value) (La Lb Lc : List Nat) : Prop where
  ab : AB w0 w va vb La Lb
  ac : AB w0 w va vc La Lc
  bc : AB w0 w vb vc Lb Lc
theorem A3.dr {w0 w : World} {va vb vc : Value} {La Lb Lc : List Nat} (h : A3 w0 w va vb vc La Lb Lc) (n : Nat) : A3 w0 (w.drewN n) va vb vc La Lb Lc := ⟨h.ab.dr n, h.ac.dr n, h.bc.dr n⟩
theorem A3.pushA {w0 w w' : World} {va vb vc va' : Value} {La Lb Lc : List Nat} {y : Nat} (h : A3 w0 w va vb vc La Lb Lc) (h1 : OR fe 24 w0.heap.size w' va' (La ++ [y])) (hg : (w.alloc (.cells #[.float .f64 y] 24)).grownBy w' va.ownBlock) (hb : va'.ownBlock = va.ownBlock ∨ va'.ownBlock = some (w.alloc (.cells #[.float .f64 y] 24)).heap.size) : A3 w0 w' va' vb vc (La ++ [y]) Lb Lc :=
  ⟨h.ab.pushA h1 hg hb, h.ac.pushA h1 hg hb, h.bc.off h.ab h.ac hg⟩
theorem A3.pushB {w0 w w' : World} {va vb vc vb' : Value} {La Lb Lc : List Nat} {y : Nat} (h : A3 w0 w va vb vc La Lb Lc) (h1 : OR fe 24 w0.heap.size w' vb' (Lb ++ [y])) (hg : (w.alloc (.cells #[.float .f64 y] 24)).grownBy w' vb.ownBlock) (hb : vb'.ownBlock = vb.ownBlock ∨ vb'.ownBlock = some (w.alloc (.cells #[.float .f64 y] 24)).heap.size) : A3 w0 w' va vb' vc La (Lb ++ [y]) Lc :=
  ⟨h.ab.pushB h1 hg hb, h.ac.off h.ab.turn h.bc hg, h.bc.pushA h1 hg hb⟩
theorem A3.pushC {w0 w w' : World} {va vb vc vc' : Value} {La Lb Lc : List Nat} {y : Nat} (h : A3 w0 w va vb vc La Lb Lc) (h1 : OR fe 24 w0.heap.size w' vc' (Lc ++ [y])) (hg : (w.alloc (.cells #[.float .f64 y] 24)).grownBy w' vc.ownBlock) (hb : vc'.ownBlock = vc.ownBlock ∨ vc'.ownBlock = some (w.alloc (.cells #[.float .f64 y] 24)).heap.size) : A3 w0 w' va vb vc' La Lb (Lc ++ [y]) :=
  ⟨h.ab.off h.ac.turn h.bc.turn hg, h.ac.pushB h1 hg hb, h.bc.pushB h1 hg hb⟩
set_option maxHeartbeats 800000 in
theorem t21 (z : Int) (w : World) : Calls Try.prog 21 #[.int .i64 z] w fun e w' => e = .returned (.bool (decide (-1024 < z) && decide (z < 1024))) ∧ w' = w := by
  by_cases h1 : -1024 < z
  · by_cases h2 : z < 1024
    · go_enter Try.func21, Try.ntmps21
      go_wp2
      go_ret
      simp [h1, h2]
    · go_enter Try.func21, Try.ntmps21
      go_wp2
      go_ret
      simp [h2]
  · go_enter Try.func21, Try.ntmps21
    go_wp2
    go_ret
    simp
    omega
end Go.Proofs.Ytcgbmcnefolgcaa
/- Whole places on a line: the three rows, and what Line and Turns tell of them. -/
namespace Go.Proofs.Ytcgbmcnefolgcaa
open Go.ChangeShapes Go.WideShapes Go.ChangeAt Go.RowKit Go.Fl Go.Sort Ieee

theorem or_sv3 {b : Nat} {w : World} {p : Option Addr} {n cap : Nat} {L : List Nat} (h : OR fe 24 b w (.slice p n cap) L) (hF : Fit L.toArray) : SV w p n cap L.toArray := by
  have hl := h.len
  refine sv_own (b := b) ?_ (by simpa using hl) hF
  have := h
  unfold OR at this
  rw [hl] at this
  simpa using this
/-- A row of whole numbers as floats. -/
structure RowI (L : List Nat) (n : Nat) (f : Nat → Int) : Prop where
  len : L.length = n
  at' : ∀ j, j < n → L.getD j 0 = floatOfInt .f64 (f j)
structure RowN (L : List Nat) (n : Nat) (f : Nat → Int) : Prop where
  len : L.length = n
  at' : ∀ j, j < n → L.getD j 0 = Go.Fl.neg (floatOfInt .f64 (f j))
theorem RowI.nil (f : Nat → Int) : RowI [] 0 f := ⟨rfl, fun j hj => by omega⟩
theorem RowN.nil (f : Nat → Int) : RowN [] 0 f := ⟨rfl, fun j hj => by omega⟩
theorem RowI.push {L : List Nat} {n : Nat} {f : Nat → Int} (h : RowI L n f) {z : Int} (hz : z = f n) : RowI (L ++ [floatOfInt .f64 z]) (n + 1) f := by
  refine ⟨by simp [h.len], fun j hj => ?_⟩
  by_cases e : j < n
  · rw [getD_app_lt (by rw [h.len]; exact e)]; exact h.at' j e
  · obtain rfl : j = n := by omega
    rw [getD_app_eq h.len, hz]
theorem RowN.push {L : List Nat} {n : Nat} {f : Nat → Int} (h : RowN L n f) {z : Int} (hz : z = f n) : RowN (L ++ [Go.Fl.neg (floatOfInt .f64 z)]) (n + 1) f := by
  refine ⟨by simp [h.len], fun j hj => ?_⟩
  by_cases e : j < n
  · rw [getD_app_lt (by rw [h.len]; exact e)]; exact h.at' j e
  · obtain rfl : j = n := by omega
    rw [getD_app_eq h.len, hz]
theorem arr_getD {L : List Nat} {j : Nat} (h : j < L.length) : L.toArray[j]! = L.getD j 0 := by simp [h]
theorem RowI.fit {L : List Nat} {n : Nat} {f : Nat → Int} (h : RowI L n f) : Fit L.toArray := by
  intro i hi
  have hi' : i < L.length := by simpa using hi
  rw [arr_getD hi', h.at' i (by have := h.len; omega)]
  exact int_lt _
theorem RowN.fit {L : List Nat} {n : Nat} {f : Nat → Int} (h : RowN L n f) : Fit L.toArray := by
  intro i hi
  have hi' : i < L.length := by simpa using hi
  rw [arr_getD hi', h.at' i (by have := h.len; omega)]
  exact neg_lt (int_lt _)
theorem ab_neg_int {z : Int} (h1 : -P53 < z) (h2 : z < P53) : WH (ab (Go.Fl.neg (floatOfInt .f64 z))) (-z) := by
  have h := (WH.int h1 h2).neg
  have e : ab (Go.Fl.neg (floatOfInt .f64 z)) = (ab (floatOfInt .f64 z)).map Go.Fl.neg := by
    rw [ab_neg]
  rw [e]; exact h
theorem RowI.rw {L : List Nat} {n : Nat} {u v : Int} (h : RowI L n (fun j => u + j * v)) (hb : ∀ j : Nat, j < n → -109800000 ≤ u + j * v ∧ u + j * v ≤ 109800000) : Rw L.toArray n u v := by
  refine ⟨by simpa using h.len, fun i hi => ?_⟩
  rw [arr_getD (by rw [h.len]; exact hi), h.at' i hi]
  have := hb i hi
  exact WH.int (by unfold P53; omega) (by unfold P53; omega)
theorem RowN.rw {L : List Nat} {n : Nat} {u v : Int} (h : RowN L n (fun j => u + j * v)) (hb : ∀ j : Nat, j < n → -109800000 ≤ u + j * v ∧ u + j * v ≤ 109800000) : Rw L.toArray n (-u) (-v) := by
  refine ⟨by simpa using h.len, fun i hi => ?_⟩
  rw [arr_getD (by rw [h.len]; exact hi), h.at' i hi]
  have := hb i hi
  refine (ab_neg_int (by unfold P53; omega) (by unfold P53; omega)).cast ?_
  rw [Int.mul_neg]; omega
/-- What Line and Turns tell of the three rows. -/
structure Str (t x y : Array Nat) (b c h : Int) : Prop where
  e1 : linE t x = 0
  a1 : WH (linA t x) b
  s1 : linS t x = some (floatOfInt .f64 c)
  e2 : linE t y = 0
  a2 : WH (linA t y) (-b)
  s2 : WH (linS t y) (-c)
  te : turE t x (ab 0) = (if h < 0 then 2 else 0)
  td : turD t x (ab 0) = []
theorem rows_str {Lt Lx Ly : List Nat} {H : Nat} {a b c h : Int} (T : RowI Lt (2 * H + 1) (fun j => a + j * h)) (X : RowI Lx (2 * H + 1) (fun j => b + c * a + j * (c * h))) (Y : RowN Ly (2 * H + 1) (fun j => b + c * a + j * (c * h))) (h0 : 0 < H) (hn : 2 * H + 1 ≤ 99) (ha : -1023 ≤ a ∧ a ≤ 1023) (hb : -1023 ≤ b ∧ b ≤ 1023) (hc : -1023 ≤ c ∧ c ≤ 1023) (hh : -1023 ≤ h ∧ h ≤ 1023) (hh0 : h ≠ 0) : Str Lt.toArray Lx.toArray Ly.toArray b c h := by
  have bca := bd_mul (i := c) (b := 1023) (v := a) (V := 1023) hc.1 hc.2 ha.1 ha.2
  have bch := bd_mul (i := c) (b := 1023) (v := h) (V := 1023) hc.1 hc.2 hh.1 hh.2
  have rT := T.rw fun j hj => Rw.at_bd (n := 2 * H + 1) hn (by omega) (by omega) hj
  have rX := X.rw fun j hj => Rw.at_bd (n := 2 * H + 1) hn (by omega) (by omega) hj
  have rY := Y.rw fun j hj => Rw.at_bd (n := 2 * H + 1) hn (by omega) (by omega) hj
  have rY' : Rw Ly.toArray (2 * H + 1) (-(b + c * a)) ((-c) * h) := by rw [Int.neg_mul]; exact rY
  have E1 := rT.err rX h0 hn ha hh hh0 (by omega) hc
  have E2 := rT.err rY' h0 hn ha hh hh0 (by omega) (by omega)
  have A1 := rT.place rX h0 hn ha hh hh0 (by omega) hc
  have A2 := rT.place rY' h0 hn ha hh hh0 (by omega) (by omega)
  have S2 := rT.speed rY' h0 hn (by omega) hh hh0 (by omega) (by omega)
  have S1 := rT.exact rX h0 hn ha hh hh0 (by omega) hc (by rw [arr_getD (by rw [T.len]; omega), T.at' H (by omega)]) (by rw [arr_getD (by rw [X.len]; omega), X.at' H (by omega)])
  have TT := rT.turns rX h0 hn hh hh0 hc
  refine ⟨E1, ?_, ?_, E2, ?_, ?_, TT.1, TT.2⟩
  · unfold linA; rw [if_pos E1]; exact A1.cast (by omega)
  · unfold linS; rw [if_pos E1]; exact S1
  · unfold linA; rw [if_pos E2]; exact A2.cast (by rw [Int.neg_mul]; omega)
  · unfold linS; rw [if_pos E2]; exact S2
theorem ab_is {s r : Nat} (h : ab s = some r) : s = r := by
  unfold ab at h
  split at h
  · cases h
  · simpa using h
end Go.Proofs.Ytcgbmcnefolgcaa

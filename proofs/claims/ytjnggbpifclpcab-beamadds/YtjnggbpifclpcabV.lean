/- Writing into a row of one's own, all else kept; the nth part of each number of a row. -/
import Derived.Test.YtjnggbpifclpcabU
namespace Go.Proofs.Ytjnggbpifclpcab
open Go.ChangeShapes Go.WideShapes Go.ChangeAt Go.RowKit Go.Fl Ieee
attribute [local go_sem] run_store_float run_store_complex call20 call19 run_neg fold_eq fold_ne fold_lt fold_gt abs_eq

/-- But for one block nothing has turned. -/
def But (g : Nat) (w w' : World) : Prop := w.grownBy w' (some g)
theorem But.refl (g : Nat) (w : World) : But g w w := World.grownBy.refl _ _
theorem But.of_up {g : Nat} {w w' : World} (h : Up w w') : But g w w' := ⟨h.os, h.tape, h.output, h.size, fun k hk _ => h.block k hk⟩
theorem But.trans {g : Nat} {a b c : World} (h : But g a b) (k : But g b c) : But g a c := by
  obtain ⟨h1, h2, h3, h4, h5⟩ := h
  obtain ⟨k1, k2, k3, k4, k5⟩ := k
  exact ⟨k1.trans h1, k2.trans h2, k3.trans h3, Nat.le_trans h4 k4, fun j hj hn => (k5 j (Nat.lt_of_lt_of_le hj h4) hn).trans (h5 j hj hn)⟩
theorem But.cell {g : Nat} {w w' : World} {b o : Nat} {v : Value} (h : But g w w') (hb : b ≠ g) (hc : w.cell? ⟨b, o, none⟩ = some v) : w'.cell? ⟨b, o, none⟩ = some v := World.grownBy.cell h hc (by simpa using hb)
theorem But.up {g : Nat} {w0 w w' : World} (h : But g w w') (hu : Up w0 w) (hg : w0.heap.size ≤ g) : Up w0 w' := Below.grown hu h hu.size (fun k hk => by cases hk; exact hg)
theorem But.rd {g : Nat} {w w' : World} {blk off n : Nat} {f : Nat → Nat × Nat} (h : But g w w') (hb : blk ≠ g) (hR : RD w blk off n f) : RD w' blk off n f := fun j hj => h.cell hb (hR j hj)
theorem But.units {g : Nat} {w w' : World} {c : Array Value} {N S : Nat} {f : Nat → Nat × Nat} (h : But g w w') (hU : ∃ bp bm q, bp ≠ g ∧ bm ≠ g ∧ q ≠ g ∧ c = #[.pointer (some ⟨bp, 0, none⟩), .pointer (some ⟨bm, 0, none⟩)] ∧ w.cell? ⟨bp, 0, none⟩ = some (.slice (some ⟨q, 0, none⟩) N N) ∧ w.cell? ⟨bm, 0, none⟩ = some (.int .i64 S) ∧ RD w q 0 N f) :
    ∃ bp bm q, bp ≠ g ∧ bm ≠ g ∧ q ≠ g ∧ c = #[.pointer (some ⟨bp, 0, none⟩), .pointer (some ⟨bm, 0, none⟩)] ∧ w'.cell? ⟨bp, 0, none⟩ = some (.slice (some ⟨q, 0, none⟩) N N) ∧ w'.cell? ⟨bm, 0, none⟩ = some (.int .i64 S) ∧ RD w' q 0 N f := by
  obtain ⟨bp, bm, q, n1, n2, n3, rfl, h1, h2, h3⟩ := hU
  exact ⟨bp, bm, q, n1, n2, n3, rfl, h.cell n1 h1, h.cell n2 h2, h.rd n3 h3⟩
theorem CRow.len {b g n cap : Nat} {w : World} {d : List (Nat × Nat)} (h : CRow b w (.slice (some ⟨g, 0, none⟩) n cap) d) : d.length = n := by
  obtain ⟨p, cap', he, _⟩ := own_form h
  simp only [Value.slice.injEq] at he
  exact he.2.1.symm
theorem CRow.put {b g n cap : Nat} {w : World} {d : List (Nat × Nat)} (h : CRow b w (.slice (some ⟨g, 0, none⟩) n cap) d) (k r s : Nat) :
    CRow b (w.setCell ⟨g, k, none⟩ (.complex .f64 r s)) (.slice (some ⟨g, 0, none⟩) n cap) (d.set k (r, s)) ∧ But g w (w.setCell ⟨g, k, none⟩ (.complex .f64 r s)) := by
  have hl := h.len
  subst hl
  obtain ⟨s1, s2⟩ := World.ownsRow.stored h k (.complex .f64 r s)
  refine ⟨?_, s2⟩
  unfold CRow
  rw [List.length_set, List.map_set]
  exact s1
theorem CRow.frz {b g n cap : Nat} {w : World} {d : List (Nat × Nat)} (h : CRow b w (.slice (some ⟨g, 0, none⟩) n cap) d) (i : Nat) : w.frozen? ⟨g, i, none⟩ = false := by
  have hl := h.len
  subst hl
  exact World.ownsRow.frozenAt h i
theorem set_at (d : List (Nat × Nat)) (k i : Nat) (v : Nat × Nat) (hk : k < d.length) : (d.set k v)[i]! = if i = k then v else d[i]! := by
  by_cases h : i < d.length
  · rw [getElem!_pos _ i (by simpa using h), List.getElem_set, getElem!_pos d i h]
    by_cases e : k = i
    · simp [e]
    · simp [e, Ne.symm e]
  · rw [if_neg (by omega), getElem!_neg _ i (by simpa using h), getElem!_neg d i h]
/-- A number's nth part, part by part. -/
def divF (n : Nat) (p : Option Nat × Option Nat) : Option Nat × Option Nat := (bin .quo p.1 (ab (floatOfInt .f64 n)), bin .quo p.2 (ab (floatOfInt .f64 n)))
/-- What a call leaves that writes a row of one's own anew. -/
def WR (b g n cap : Nat) (L : List (Option Nat × Option Nat)) (w : World) (e : Ending) (w' : World) : Prop :=
  ∃ d, e = .returned (.tuple #[]) ∧ Hid (CRow b w' (.slice (some ⟨g, 0, none⟩) n cap) d) ∧ Hid (But g w w') ∧ Hid (d.map ab2 = L)
theorem ab2_at {d : List (Nat × Nat)} {i : Nat} (hi : i < d.length) : (d.map ab2)[i]? = some (ab2 d[i]!) := by
  rw [List.getElem?_map, List.getElem?_eq_getElem hi, getElem!_pos d i hi]; rfl
set_option maxHeartbeats 1000000 in
theorem t50 {b g n cap : Nat} {w : World} {d : List (Nat × Nat)} (h : CRow b w (.slice (some ⟨g, 0, none⟩) n cap) d) (hd : d.length = n) (hn : n ≤ 100000) : Calls Try.prog 50 #[.slice (some ⟨g, 0, none⟩) n cap] w (WR b g n cap ((d.map ab2).map (divF n)) w) := by
  have HR : Hid (CRow b w (.slice (some ⟨g, 0, none⟩) n cap) d) := h
  have HD : Hid (d.length = n) := hd
  clear h hd
  go_enter Try.func50, Try.ntmps50
  go_wp2
  go_loopw [3, 4, 10] (fun _ _ vi wr => ∃ (k : Nat) (dk : List (Nat × Nat)), k ≤ n ∧ vi = .int .i64 k ∧ Hid (CRow b wr (.slice (some ⟨g, 0, none⟩) n cap) dk) ∧ Hid (But g w wr) ∧ Hid (dk.length = n ∧ (∀ i, i < k → ab2 dk[i]! = divF n (ab2 d[i]!)) ∧ ∀ i, k ≤ i → dk[i]! = d[i]!)) (fun _ _ vi _ => n - (intOf vi).toNat)
  case atStart => exact ⟨0, d, by omega, rfl, HR, But.refl _ _, HD.out, fun i hi => by omega, fun _ _ => rfl⟩
  case round =>
    clear HR
    obtain ⟨k, dk, hk, rfl, HK, HB, HE⟩ := hrel
    by_cases hlt : k < n
    · have hkd : k < dk.length := by rw [HE.out.1]; exact hlt
      obtain ⟨x, y, HX, hc⟩ : ∃ x y, Hid (dk[k]! = (x, y)) ∧ wr.cell? ⟨g, k, none⟩ = some (.complex .f64 x y) := ⟨_, _, rfl, HK.out.cell hkd⟩
      have hf := HK.out.frz k
      have hkz : (k : Int) < (n : Int) := by omega
      go_wp2_with (first | ((with_reducible refine upon_fl (by simp) ?_); intro q m hq; have HQ : Hid (_ = bin .quo _ _) := hq; clear hq))
      go_roundw
      case rel =>
        rename_i q1 m1 H1
        obtain ⟨r1, r2⟩ := CRow.put (HK.out.up (Up.drewN _ (m1 + m))) k q1 q
        refine ⟨k + 1, _, by omega, by go_num, r1, (HB.out.trans (But.of_up (Up.drewN _ (m1 + m)))).trans r2, by simp [HE.out.1], fun i hi => ?_, fun i hi => ?_⟩
        · rw [set_at _ _ _ _ hkd]
          by_cases e : i = k
          · subst e
            rw [if_pos rfl, ← HE.out.2.2 i (Nat.le_refl _), HX.out]
            exact Prod.ext H1.out HQ.out
          · rw [if_neg e]; exact HE.out.2.1 i (by omega)
        · rw [set_at _ _ _ _ hkd, if_neg (by omega)]; exact HE.out.2.2 i (by omega)
      case measure => simp [intOf]; omega
    · obtain rfl : n = k := by omega
      go_wp2
      go_end0
      refine ⟨dk, rfl, HK, HB, List.ext_getElem? fun i => ?_⟩
      have hl := HE.out.1
      have hl' := HD.out
      by_cases hi : i < n
      · rw [ab2_at (by omega), HE.out.2.1 i hi, List.getElem?_map, ab2_at (by omega)]; rfl
      · rw [List.getElem?_eq_none (by simp; omega), List.getElem?_eq_none (by simp; omega)]
end Go.Proofs.Ytjnggbpifclpcab

/- The rows of the reference, made by append. -/
import Derived.Test.YtlgejebgkkmacaaB
namespace Go.Proofs.Ytlgejebgkkmacaa
open Go.ChangeShapes Go.WideShapes Go.ChangeAt Go.RowKit Go.Fl
attribute [local go_sem] call39 call50 run_neg fold_eq fold_ne fold_lt fold_gt abs_eq

def sineL : List Nat := [4607182418800017408, 13818544856648471893, 4575957461383581969, 13774824197408792602, 4523617214285662004, 13716528800881525988, 4460272573143870729, 13648976655441704991, 4389130328383466826]
def cosineL : List Nat := [4607182418800017408, 13826050856027422720, 4586165620538955093, 13787419979223755799, 4537941361671905306, 13732177094651715420, 4477122120089393304, 13666517717442657437, 4407590220077447199]
def tangentL : List Nat := [4607182418800017408, 13823048456275842389, 4596373779694328218, 13817687028148020370, 4592670820000712476, 13814587147885025094, 4590207312512236308, 13812840297120469265, 4588638185040256542, 13811117867789299496, 4587023449039406616, 13809798735632998756, 4585925428558828667, 13808870457448935272, 4585130310279789462, 13808181734925275268, 4584391475231203080, 13807264411867534365, 4583447231574686416, 13806419780728628250, 4582687230582855930, 13805732290266727924, 4582062340878461975, 13805161819457917015]
theorem sines_ok : ∀ k, k < 9 → quotientF k (factorialF (2 * k + 1 - 1)) = some (sineL.getD k 0) := by decide +kernel
theorem cosines_ok : ∀ k, k < 9 → quotientF k (factorialF (2 * k - 1)) = some (cosineL.getD k 0) := by decide +kernel
theorem tangents_ok : ∀ k, k < 24 → quotientF k (ab (floatOfInt .f64 (2 * (k : Int) + 1))) = some (tangentL.getD k 0) := by decide +kernel
theorem info22 : (Try.prog.info? 22).map (fun i => (i.zero, i.size, i.bytes)) = some (some (.float .f64 0), 1, 8) := by kernel_rfl

theorem sine_of {k r f : Nat} (hk : k < 9) (hf : Hid (ab f = factorialF ((2 * (k : Int) + 1).toNat - 1))) (hr : Hid (ab r = quotientF k (ab f))) : sineL.getD k 0 = r := by
  have h := hr.out
  rw [hf.out, show (2 * (k : Int) + 1).toNat - 1 = 2 * k + 1 - 1 by omega, sines_ok k hk] at h
  exact (of_ab h).symm
theorem cosine_of {k r f : Nat} (hk : k < 9) (hf : Hid (ab f = factorialF ((2 * (k : Int)).toNat - 1))) (hr : Hid (ab r = quotientF k (ab f))) : cosineL.getD k 0 = r := by
  have h := hr.out
  rw [hf.out, show (2 * (k : Int)).toNat - 1 = 2 * k - 1 by omega, cosines_ok k hk] at h
  exact (of_ab h).symm
theorem tangent_of {k r : Nat} (hk : k < 24) (hr : Hid (ab r = quotientF k (ab (floatOfInt .f64 (2 * (k : Int) + 1))))) : tangentL.getD k 0 = r := by
  have h := hr.out
  rw [tangents_ok k hk] at h
  exact (of_ab h).symm
theorem t73i (k : Int) (w : World) (h0 : 0 ≤ k) (hk : k < 100) : Calls Try.prog 73 #[.int .i64 k] w (FR w (factorialF (k.toNat - 1))) := by
  obtain ⟨K, rfl⟩ := Int.eq_ofNat_of_zero_le h0
  exact t73 K w (by omega)
theorem row_push (L : List Nat) (k : Nat) (hk : k < L.length) {w wr w1 : World} {v v' : Value} {r n : Nat} {c : Array Value} {t : TypeId} (hr : Hid (L.getD k 0 = r))
    (hown : wr.ownsRow w.heap.size 22 1 v k ((L.take k).map (Value.float .f64))) (hbel : Below w.heap.size w wr)
    (hown' : w1.ownsRow w.heap.size 22 1 v' (k + 1) (List.take k (L.map (Value.float .f64)) ++ [.float .f64 r])) (hg : ((wr.drewN n).alloc (.cells c t)).grownBy w1 v.ownBlock) :
    w1.ownsRow w.heap.size 22 1 v' (k + 1) ((L.take (k + 1)).map (Value.float .f64)) ∧ Below w.heap.size w w1 := by
  refine ⟨?_, ?_⟩
  · have e : (L.take (k + 1)).map (Value.float .f64) = List.take k (L.map (Value.float .f64)) ++ [.float .f64 r] := by
      rw [← hr.out, List.take_succ_eq_append_getElem hk, List.map_append, List.map_take]
      simp [List.getD, List.getElem?_eq_getElem hk]
    rw [e]; exact hown'
  · have hs := hbel.size
    exact ((below_drewN hbel n).alloc (by simpa using hs) _).grown hg (by simp; omega) (fun j hj => (hown.lt j hj).1)

theorem row_sines (w : World) : Calls Try.prog 63 #[.int .i64 0] w fun e w' => ∃ v, e = .returned v ∧ w'.ownsRow w.heap.size 22 1 v 9 (sineL.map (Value.float .f64)) ∧ Below w.heap.size w w' := by
  obtain ⟨i0, hi, hz0, hz1, hz2⟩ := info_parts info22
  go_enter Try.func63, Try.ntmps63
  go_wp2
  go_loopw [3, 5] (fun v i wr => ∃ k : Nat, k ≤ 9 ∧ i = .int .i64 k ∧ wr.ownsRow w.heap.size 22 1 v k ((sineL.take k).map (Value.float .f64)) ∧ Below w.heap.size w wr) (fun _ i _ => 9 - (intOf i).toNat)
  case atStart => exact ⟨0, by omega, rfl, World.ownsRow_nil _ _ _ _, Below.refl _ _⟩
  case round =>
    obtain ⟨k, hk, rfl, hown, hbel⟩ := hrel
    by_cases hlt : k < 9
    · go_wp2_with (first
        | (go_at_call 73; refine (t73i _ _ (by omega) (by omega)).mono ?_; rintro e w' ⟨f, n, rfl, rfl, hf⟩)
        | (go_at_call 72; refine (t72 _ _ _ (by omega)).mono ?_; rintro e w' ⟨r, n, rfl, rfl, hr⟩; have HR : Hid (sineL.getD k 0 = r) := sine_of hlt hf hr)
        | (at_builtin; refine wpList_append_own _ rfl _ _ 75 rfl w.heap.size 22 i0 (.float .f64 0) 1 8 Try.underlying75 hi hz0 hz1 hz2 rfl (by decide) _ _ _ rfl (hown.alloc _) ⟨wr.heap.size, 0, none⟩ 1 1 [.float .f64 r] rfl rfl ?c1 ?c2 ?c3 ?c4 ?c5 ?_))
      case c1 =>
        intro j u hj
        match j, hj with
        | 0, hj => simp at hj; subst hj; exact World.cell?_alloc_at _ _ _ _ rfl
      case c2 => intro u hu; simp at hu; subst hu; rfl
      case c3 => unfold maxLen; omega
      case c4 => omega
      case c5 => have := hbel.size; simp; omega
      · intro v' w1 hown' hgrow _
        have R := row_push sineL k (by exact hlt) HR hown hbel hown' hgrow
        clear hown' hgrow hown hbel
        go_wp2
        go_roundw
        case rel => exact ⟨k + 1, by omega, by go_num, R.1, R.2⟩
        case measure => simp [intOf]; omega
    · go_wp2
      obtain rfl : k = 9 := by omega
      go_ret
      exact ⟨_, rfl, hown, hbel⟩
theorem row_cosines (w : World) : Calls Try.prog 63 #[.int .i64 1] w fun e w' => ∃ v, e = .returned v ∧ w'.ownsRow w.heap.size 22 1 v 9 (cosineL.map (Value.float .f64)) ∧ Below w.heap.size w w' := by
  obtain ⟨i0, hi, hz0, hz1, hz2⟩ := info_parts info22
  go_enter Try.func63, Try.ntmps63
  go_wp2
  go_loopw [3, 5] (fun v i wr => ∃ k : Nat, k ≤ 9 ∧ i = .int .i64 k ∧ wr.ownsRow w.heap.size 22 1 v k ((cosineL.take k).map (Value.float .f64)) ∧ Below w.heap.size w wr) (fun _ i _ => 9 - (intOf i).toNat)
  case atStart => exact ⟨0, by omega, rfl, World.ownsRow_nil _ _ _ _, Below.refl _ _⟩
  case round =>
    obtain ⟨k, hk, rfl, hown, hbel⟩ := hrel
    by_cases hlt : k < 9
    · go_wp2_with (first
        | (go_at_call 73; refine (t73i _ _ (by omega) (by omega)).mono ?_; rintro e w' ⟨f, n, rfl, rfl, hf⟩)
        | (go_at_call 72; refine (t72 _ _ _ (by omega)).mono ?_; rintro e w' ⟨r, n, rfl, rfl, hr⟩; have HR : Hid (cosineL.getD k 0 = r) := cosine_of hlt hf hr)
        | (at_builtin; refine wpList_append_own _ rfl _ _ 75 rfl w.heap.size 22 i0 (.float .f64 0) 1 8 Try.underlying75 hi hz0 hz1 hz2 rfl (by decide) _ _ _ rfl (hown.alloc _) ⟨wr.heap.size, 0, none⟩ 1 1 [.float .f64 r] rfl rfl ?c1 ?c2 ?c3 ?c4 ?c5 ?_))
      case c1 =>
        intro j u hj
        match j, hj with
        | 0, hj => simp at hj; subst hj; exact World.cell?_alloc_at _ _ _ _ rfl
      case c2 => intro u hu; simp at hu; subst hu; rfl
      case c3 => unfold maxLen; omega
      case c4 => omega
      case c5 => have := hbel.size; simp; omega
      · intro v' w1 hown' hgrow _
        have R := row_push cosineL k (by exact hlt) HR hown hbel hown' hgrow
        clear hown' hgrow hown hbel
        go_wp2
        go_roundw
        case rel => exact ⟨k + 1, by omega, by go_num, R.1, R.2⟩
        case measure => simp [intOf]; omega
    · go_wp2
      obtain rfl : k = 9 := by omega
      go_ret
      exact ⟨_, rfl, hown, hbel⟩
theorem row_tangents (w : World) : Calls Try.prog 63 #[.int .i64 2] w fun e w' => ∃ v, e = .returned v ∧ w'.ownsRow w.heap.size 22 1 v 24 (tangentL.map (Value.float .f64)) ∧ Below w.heap.size w w' := by
  obtain ⟨i0, hi, hz0, hz1, hz2⟩ := info_parts info22
  go_enter Try.func63, Try.ntmps63
  go_wp2
  go_loopw [3, 4] (fun v i wr => ∃ k : Nat, k ≤ 24 ∧ i = .int .i64 k ∧ wr.ownsRow w.heap.size 22 1 v k ((tangentL.take k).map (Value.float .f64)) ∧ Below w.heap.size w wr) (fun _ i _ => 24 - (intOf i).toNat)
  case atStart => exact ⟨0, by omega, rfl, World.ownsRow_nil _ _ _ _, Below.refl _ _⟩
  case round =>
    obtain ⟨k, hk, rfl, hown, hbel⟩ := hrel
    by_cases hlt : k < 24
    · go_wp2_with (first
        | (go_at_call 72; refine (t72 _ _ _ (by omega)).mono ?_; rintro e w' ⟨r, n, rfl, rfl, hr⟩; have HR : Hid (tangentL.getD k 0 = r) := tangent_of hlt hr)
        | (at_builtin; refine wpList_append_own _ rfl _ _ 75 rfl w.heap.size 22 i0 (.float .f64 0) 1 8 Try.underlying75 hi hz0 hz1 hz2 rfl (by decide) _ _ _ rfl (hown.alloc _) ⟨wr.heap.size, 0, none⟩ 1 1 [.float .f64 r] rfl rfl ?c1 ?c2 ?c3 ?c4 ?c5 ?_))
      case c1 =>
        intro j u hj
        match j, hj with
        | 0, hj => simp at hj; subst hj; exact World.cell?_alloc_at _ _ _ _ rfl
      case c2 => intro u hu; simp at hu; subst hu; rfl
      case c3 => unfold maxLen; omega
      case c4 => omega
      case c5 => have := hbel.size; simp; omega
      · intro v' w1 hown' hgrow _
        have R := row_push tangentL k (by exact hlt) HR hown hbel hown' hgrow
        clear hown' hgrow hown hbel
        go_wp2
        go_roundw
        case rel => exact ⟨k + 1, by omega, by go_num, R.1, R.2⟩
        case measure => simp [intOf]; omega
    · go_wp2
      obtain rfl : k = 24 := by omega
      go_ret
      exact ⟨_, rfl, hown, hbel⟩
end Go.Proofs.Ytlgejebgkkmacaa

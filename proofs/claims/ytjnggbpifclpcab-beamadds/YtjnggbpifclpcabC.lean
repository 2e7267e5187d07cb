/- The rows of the reference, made by append. -/
import Derived.Test.YtjnggbpifclpcabB
namespace Go.Proofs.Ytjnggbpifclpcab
open Go.ChangeShapes Go.WideShapes Go.ChangeAt Go.RowKit Go.Fl
attribute [local go_sem] call20 call19 run_neg fold_eq fold_ne fold_lt fold_gt abs_eq

def sineL : List Nat := [4607182418800017408, 13818544856648471893, 4575957461383581969, 13774824197408792602, 4523617214285662004, 13716528800881525988, 4460272573143870729, 13648976655441704991, 4389130328383466826]
def cosineL : List Nat := [4607182418800017408, 13826050856027422720, 4586165620538955093, 13787419979223755799, 4537941361671905306, 13732177094651715420, 4477122120089393304, 13666517717442657437, 4407590220077447199]
def tangentL : List Nat := [4607182418800017408, 13823048456275842389, 4596373779694328218, 13817687028148020370, 4592670820000712476, 13814587147885025094, 4590207312512236308, 13812840297120469265, 4588638185040256542, 13811117867789299496, 4587023449039406616, 13809798735632998756, 4585925428558828667, 13808870457448935272, 4585130310279789462, 13808181734925275268, 4584391475231203080, 13807264411867534365, 4583447231574686416, 13806419780728628250, 4582687230582855930, 13805732290266727924, 4582062340878461975, 13805161819457917015]
theorem sines_ok : ∀ k, k < 9 → quotientF k (factorialF (2 * k + 1 - 1)) = some (sineL.getD k 0) := by decide +kernel
theorem cosines_ok : ∀ k, k < 9 → quotientF k (factorialF (2 * k - 1)) = some (cosineL.getD k 0) := by decide +kernel
theorem tangents_ok : ∀ k, k < 24 → quotientF k (ab (floatOfInt .f64 (2 * (k : Int) + 1))) = some (tangentL.getD k 0) := by decide +kernel
theorem info22 : (Try.prog.info? 33).map (fun i => (i.zero, i.size, i.bytes)) = some (some (.float .f64 0), 1, 8) := by kernel_rfl

theorem sine_of {k r f : Nat} (hk : k < 9) (hf : Hid (ab f = factorialF ((2 * (k : Int) + 1).toNat - 1))) (hr : Hid (ab r = quotientF k (ab f))) : sineL.getD k 0 = r := by
  have h := hr.out
  rw [hf.out, show (2 * (k : Int) + 1).toNat - 1 = 2 * k + 1 - 1 by omega, sines_ok k hk] at h
  exact (of_ab h).symm
theorem cosine_of {k r f : Nat} (hk : k < 9) (hf : Hid (ab f = factorialF ((2 * (k : Int)).toNat - 1))) (hr : Hid (ab r = quotientF k (ab f))) : cosineL.getD k 0 = r := by
  have h := hr.out
  rw [hf.out, show (2 * (k : Int)).toNat - 1 = 2 * k - 1 by omega, cosines_ok k hk] at h
  exact (of_ab h).symm
theorem tangent_of {k r : Nat} (hk : k < 24) (hr : Hid (ab r = quotientF k (ab (floatOfInt .f64 (2 * (k : Int) + 1))))) : tangentL.getD k 0 = r := by
  have h := hr.out
  rw [tangents_ok k hk] at h
  exact (of_ab h).symm
theorem row_push (L : List Nat) (k : Nat) (hk : k < L.length) {w wr w1 : World} {v v' : Value} {r n : Nat} {c : Array Value} {t : TypeId} (hr : Hid (L.getD k 0 = r))
    (hown : wr.ownsRow w.heap.size 33 1 v k ((L.take k).map (Value.float .f64))) (hbel : Below w.heap.size w wr)
    (hown' : w1.ownsRow w.heap.size 33 1 v' (k + 1) (List.take k (L.map (Value.float .f64)) ++ [.float .f64 r])) (hg : ((wr.drewN n).alloc (.cells c t)).grownBy w1 v.ownBlock) :
    w1.ownsRow w.heap.size 33 1 v' (k + 1) ((L.take (k + 1)).map (Value.float .f64)) ∧ Below w.heap.size w w1 := by
  refine ⟨?_, ?_⟩
  · have e : (L.take (k + 1)).map (Value.float .f64) = List.take k (L.map (Value.float .f64)) ++ [.float .f64 r] := by
      rw [← hr.out, List.take_succ_eq_append_getElem hk, List.map_append, List.map_take]
      simp [List.getD, List.getElem?_eq_getElem hk]
    rw [e]; exact hown'
  · have hs := hbel.size
    exact ((below_drewN hbel n).alloc (by simpa using hs) _).grown hg (by simp; omega) (fun j hj => (hown.lt j hj).1)

end Go.Proofs.Ytjnggbpifclpcab

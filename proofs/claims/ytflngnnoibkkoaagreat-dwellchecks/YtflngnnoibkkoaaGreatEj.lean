/- Dwell: the numbers of the statement's own setup. -/
import Derived.Test.YtflngnnoibkkoaaGreatEi
import Derived.Test.YtflngnnoibkkoaaGreatTb
import Derived.Test.YtflngnnoibkkoaaGreatCHg
namespace Go.Proofs.YtflngnnoibkkoaaGreat
open Go.ChangeShapes Go.WideShapes Go.ChangeAt Go.RowKit Go.Fl Ieee
set_option maxRecDepth 200000
set_option maxHeartbeats 8000000

def codeK : List (Nat × Nat) := [(4607182418800017408, 0), (4607182418800017408, 0), (13830554455654793216, 0), (4607182418800017408, 0)]
def rowK : List (Nat × Nat) := [(0, 0), (0, 0), (0, 0), (0, 0), (0, 0), (4607182418800017408, 0), (4607182418800017408, 0), (13830554455654793216, 0), (4607182418800017408, 0), (0, 0), (0, 0), (0, 0), (0, 0), (0, 0), (0, 0), (0, 0)]
def cmpK : List (Nat × Nat) := [(0, 0), (0, 0), (4607182418800017408, 0), (0, 0), (13830554455654793216, 0), (4616189618054758400, 0), (13830554455654793216, 0), (0, 0), (4607182418800017408, 0), (0, 0), (0, 0), (0, 0), (0, 0), (0, 0), (0, 0), (0, 0)]
def dopK (k g : Nat) : Nat × Nat := if k = 0 then (([(0, 0), (0, 0), (4616189618054758400, 0), (0, 0), (13839561654909534208, 0), (4625196817309499392, 0), (13839561654909534208, 0), (0, 0), (4616189618054758400, 0), (0, 0), (0, 0), (0, 0), (0, 0), (0, 0), (0, 0), (0, 0)] : List (Nat × Nat)))[g]! else (0, 0)
def dK (i : Nat) : Array Nat := if i = 0 then #[0, 0, 4625196817309499392, 0, 4625196817309499392, 4643211215818981376, 4625196817309499392, 0, 4625196817309499392, 0, 0, 0, 0, 0, 0, 0] else #[0, 0, 0, 0, 0, 0, 0, 0, 0, 0, 0, 0, 0, 0, 0, 0]
theorem of_ab2 {x k : Nat × Nat} (h : ab2 x = (some k.1, some k.2)) : x = k := by
  obtain ⟨a, b⟩ := x
  obtain ⟨c, d⟩ := k
  simp only [ab2, Prod.mk.injEq] at h
  rw [of_ab h.1, of_ab h.2]
theorem list_of {d K : List (Nat × Nat)} (h : d.map ab2 = K.map (fun k => (some k.1, some k.2))) : d = K := by
  induction d generalizing K with
  | nil => cases K with
    | nil => rfl
    | cons _ _ => simp at h
  | cons x t ih => cases K with
    | nil => simp at h
    | cons k K =>
      simp only [List.map_cons, List.cons.injEq] at h
      rw [of_ab2 h.1, ih h.2]
theorem pulse_k {fp : Nat → Nat × Nat} (h : PulseOf 3 fp) : fp = fun i => codeK[i]! := by
  obtain ⟨d, hd, hf⟩ := h
  have e : d = codeK := list_of (hd.trans (by decide +kernel))
  funext i
  rw [hf i, e]
theorem ck_cmp : ∀ g, g < 16 → heldF (fun g => rowK[g]!) 16 (fun i => codeK[i]!) 4 g = (some (cmpK[g]!).1, some (cmpK[g]!).2) := by decide +kernel
theorem ck_win : ∀ j, j < 4 → weightF 0 4 j = some 4607182418800017408 := by decide +kernel
theorem ck_dop : ∀ k, k < 4 → ∀ g, g < 16 → slowAt false 4 (fun _ => scaleF (cmpK[g]!) 4607182418800017408) k = (some (dopK k g).1, some (dopK k g).2) := by decide +kernel
theorem ck_pow : ∀ k, k < 4 → ∀ g, g < 16 → pow2F (dopK k g) = some (dK k)[g]! := by decide +kernel
theorem cells_k {f3 : Nat → Nat → Nat × Nat} {D : Nat → Array Nat} (h : Piped 4 16 4 0 (fun _ g => rowK[g]!) (fun i => codeK[i]!) f3) (hD : ∀ i, i < 4 → ∀ g, g < 16 → ab (D i)[g]! = pow2F (f3 i g)) (hs : ∀ i, i < 4 → (D i).size = 16) : ∀ i, i < 4 → D i = dK i := by
  obtain ⟨f1, f2, fw, h1, h2, h3, h4⟩ := h
  have e1 : ∀ k, k < 4 → ∀ g, g < 16 → f1 k g = cmpK[g]! := fun k hk g hg => of_ab2 ((h1 k hk g hg).trans (ck_cmp g hg))
  have e2 : ∀ k, k < 4 → ∀ g, g < 16 → f2 k g = cmpK[g]! := fun k hk g hg => of_ab2 (by rw [h2 k hk g hg, e1 k hk g hg, ← ck_cmp g hg, ← h1 k hk g hg, e1 k hk g hg])
  have e3 : ∀ j, j < 4 → fw j = 4607182418800017408 := fun j hj => of_ab ((h3 j hj).trans (ck_win j hj))
  have e4 : ∀ k, k < 4 → ∀ g, g < 16 → f3 k g = dopK k g := fun k hk g hg => of_ab2 (by
    rw [h4 k hk g hg, ← ck_dop k hk g hg]
    unfold dopF
    exact slowAt_congr (fun p hp => by rw [e2 p hp g hg, e3 p hp]) k)
  intro i hi
  have hz : (dK i).size = 16 := by
    unfold dK
    split <;> rfl
  refine Array.ext ((hs i hi).trans hz.symm) fun g g1 g2 => ?_
  have hg : g < 16 := by rw [← hz]; exact g2
  have := of_ab ((hD i hi g hg).trans (by rw [e4 i hi g hg]; exact ck_pow i hi g hg))
  rwa [getElem!_pos _ g g1, getElem!_pos _ g g2] at this
theorem fit_k : ∀ i, i < 4 → Cf.Fit (dK i) := by
  intro i hi
  unfold Cf.Fit
  obtain rfl | rfl | rfl | rfl : i = 0 ∨ i = 1 ∨ i = 2 ∨ i = 3 := by omega
  all_goals decide +kernel
theorem ck_map : Cf.mpE (Cf.echoD 0 1 4 0 (ab 4620693217682128896)) 4 dK 1 4 0 4620693217682128896 = 0 ∧ Cf.mpL (Cf.echoD 0 1 4 0 (ab 4620693217682128896)) 4 dK 1 4 0 4620693217682128896 = [(0, 5, 4643211215818981376)] := by decide +kernel
end Go.Proofs.YtflngnnoibkkoaaGreat

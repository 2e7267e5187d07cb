/- For the reference's Centre: the same numbers told in other words. No program. -/
import Derived.Test.YtephkmahnbhmbaaSf
import Derived.Test.YtephkmahnbhmbaaNa
namespace Go.Proofs.Ytephkmahnbhmbaa
open Go.Fl Go.Sort

theorem clI_into (x : Int) : max (-1073741824) (min 1073741824 x) = clI x := by unfold clI; omega
theorem bins_into (n : Int) : max 0 (min 1073741824 n) = min (max n 0) 1073741824 := by omega
theorem abvF_self (x : Nat) : abvF (ab x) (ab x) = false := by
  unfold abvF
  cases hx : isN x with
  | true => rw [ab_none hx]; rfl
  | false =>
    rw [ab_some hx, gtF_lin hx hx, eqF_lin hx hx]
    simp
theorem posB_fin (s : Nat) : posB (ab s) = (fin (ab s) && gtF (ab s) (ab 0)) := by
  have z : isN 0 = false := by decide +kernel
  have l0 : lin 0 = 0 := by decide +kernel
  have z1 : isN 9218868437227405311 = false := by decide +kernel
  have l1 : lin 9218868437227405311 = 9218868437227405311 := by decide +kernel
  unfold posB
  cases hs : isN s with
  | true => rw [ab_none hs]; rfl
  | false =>
    unfold fin
    have ha : isN (Go.Fl.abs s) = false := by rw [isN_abs]; exact hs
    rw [ab_some hs, ab_some z, ab_some z1, Option.map_some, gtF_lin hs z, ltF_lin hs z1, eqF_lin hs z1, eqF_lin hs hs, gtF_lin ha z1, l0, l1, Bool.eq_iff_iff]
    simp only [Bool.and_eq_true, Bool.or_eq_true, decide_eq_true_eq, Bool.not_eq_true', decide_eq_false_iff_not, true_and]
    have hab : 0 < lin s → lin (Go.Fl.abs s) = lin s := by
      intro h
      unfold lin sgn at h ⊢
      unfold Go.Fl.abs
      split at h
      · omega
      · rename_i hq
        have : s % 2 ^ 63 % 2 ^ 63 = s % 2 ^ 63 := Nat.mod_mod _ _
        rw [this, if_neg (by have : s % 2 ^ 63 / 2 ^ 63 = 0 := Nat.div_eq_of_lt (Nat.mod_lt _ (by omega)); rw [this]; decide), if_neg hq]
    constructor
    · rintro ⟨h1, h2⟩
      rw [hab h1]
      omega
    · rintro ⟨h1, h2⟩
      rw [hab h2] at h1
      omega
end Go.Proofs.Ytephkmahnbhmbaa

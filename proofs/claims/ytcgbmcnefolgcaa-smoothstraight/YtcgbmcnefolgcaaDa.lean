/- Lists of ints held against each other; lists that are written out. -/
import Derived.Test.YtcgbmcnefolgcaaBf
import Derived.Test.YtcgbmcnefolgcaaCf
namespace Go.Proofs.Ytcgbmcnefolgcaa
open Go.ChangeShapes Go.WideShapes Go.ChangeAt Go.RowKit Go.Fl Go.Sort
attribute [local go_sem] run_store_float call22 call54 run_neg fold_eq fold_ne fold_lt fold_gt abs_eq

/-- A list of ints that can be read. -/
structure IV (w : World) (p : Option Addr) (n : Nat) (L : List Nat) : Prop where
  len : L.length = n
  rd : 0 < n → ∃ b o, p = some ⟨b, o, none⟩ ∧ ∀ i, i < n → w.cell? ⟨b, o + i, none⟩ = some (.int .i64 (L.getD i 0 : Nat))
theorem IV.up {w w' : World} {p : Option Addr} {n : Nat} {L : List Nat} (h : IV w p n L) (hu : Up w w') : IV w' p n L :=
  ⟨h.len, fun h0 => by obtain ⟨b, o, e, k⟩ := h.rd h0; exact ⟨b, o, e, fun i hi => up_cell hu (k i hi)⟩⟩
theorem OR.iv {b : Nat} {w : World} {p : Option Addr} {n cap : Nat} {L : List Nat} (h : OR ie 3 b w (.slice p n cap) L) : IV w p n L := by
  have hl := h.len
  refine ⟨hl, fun h0 => ?_⟩
  obtain ⟨p', c', e, hp⟩ := h.form
  obtain ⟨g, hg⟩ := hp (by omega)
  simp only [Value.slice.injEq] at e
  have := e.1.trans hg
  subst this
  refine ⟨g, 0, rfl, fun i hi => ?_⟩
  have := OR.cell h (i := i) (by omega)
  rw [Nat.zero_add, this, getElem!_pos L i (by omega)]
  simp [show i < L.length by omega]
set_option maxHeartbeats 1000000 in
theorem t20 {w : World} {p q : Option Addr} {n ca cb : Nat} {L : List Nat} (ha : IV w p n L) (hb : IV w q n L) (hn : n ≤ 1000000) : Calls Try.prog 20 #[.slice p n ca, .slice q n cb] w fun e w' => e = .returned (.bool true) ∧ ∃ m, w' = w.drewN m := by
  have HA : Hid (IV w p n L) := ha
  have HB : Hid (IV w q n L) := hb
  have z0 : (n : Int) ≤ 1000000 := by omega
  clear ha hb
  go_enter Try.func20, Try.ntmps20
  go_wp2
  go_loopw [5, 13] (fun _ vi wr => ∃ i m : Nat, i ≤ n ∧ vi = .int .i64 i ∧ wr = w.drewN m) (fun _ vi _ => n - (intOf vi).toNat)
  case atStart => exact ⟨0, 0, by omega, rfl, rfl⟩
  case round =>
    obtain ⟨i, m, hi, rfl, hw⟩ := hrel
    rename World => wr
    have HU : Hid (Up w wr) := by rw [hw]; exact Up.drewN _ _
    have HW : Hid (wr = w.drewN m) := hw
    clear hw
    by_cases hlt : i < n
    · obtain ⟨b1, o1, e1, r1⟩ := HA.out.rd (by omega)
      obtain ⟨b2, o2, e2, r2⟩ := HB.out.rd (by omega)
      subst e1
      subst e2
      have c1 := up_cell HU.out (r1 i hlt)
      have c2 := up_cell HU.out (r2 i hlt)
      generalize ((L.getD i 0 : Nat) : Int) = x at c1 c2
      have z1 : (i : Int) < (n : Int) := by omega
      have z2 : (0 : Int) ≤ (i : Int) := by omega
      clear r1 r2
      go_wp2_with fail
      go_quiet (fail)
      go_wp2
      go_roundw
      case rel => exact ⟨i + 1, _, by omega, by go_num, by rw [HW.out, World.drewN_drewN]⟩
      case measure => simp [intOf]; omega
    · obtain rfl : i = n := by omega
      go_wp2
      go_ret
      exact ⟨rfl, m, HW.out⟩
end Go.Proofs.Ytcgbmcnefolgcaa

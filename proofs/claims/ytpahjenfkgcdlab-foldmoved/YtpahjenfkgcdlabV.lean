/- One of a list; FoldMoved. -/
import Derived.Test.YtpahjenfkgcdlabS
import Derived.Test.YtpahjenfkgcdlabU
namespace Go.Proofs.Ytpahjenfkgcdlab
open Go.ChangeShapes Go.WideShapes Go.ChangeAt Go.RowKit

set_option maxHeartbeats 1000000 in
theorem t7 (p : Option Addr) (n c : Nat) (f : Nat → Int) (x : Int) (w : World) (hn : n ≤ 8192) (hm : IR w p n f) (hx : ∃ j, j < n ∧ f j = x) : Calls Try.prog 7 #[.slice p n c, .int .i64 x] w (TU w) := by
  have HM : Hid (IR w p n f) := hm
  obtain ⟨j, hj, hjx⟩ := hx
  have HJ : Hid (f j = x) := hjx
  have HJn : Hid (j < n) := hj
  have hnz : (n : Int) ≤ 8192 := by omega
  clear hm hj hjx
  go_enter Try.func7, Try.ntmps7
  go_wp2
  go_loopw [5] (fun v5 wr => ∃ i : Nat, i ≤ j ∧ v5 = .int .i64 i ∧ Hid (Up w wr)) (fun v5 _ => n - (intOf v5).toNat)
  case atStart => exact ⟨0, by omega, rfl, Up.refl _⟩
  case round =>
    obtain ⟨i, hi, rfl, HU⟩ := hrel
    have hlt : i < n := by have := HJn.out; omega
    obtain ⟨b1, o1, rfl, d1⟩ := HM.out i hlt
    have e1 := cell_up d1 HU.out
    obtain ⟨z, hz⟩ : ∃ z, f i = z := ⟨_, rfl⟩
    rw [hz] at e1
    have HZ : Hid (f i = z) := hz
    clear d1 hz
    have hiz : (i : Int) < (n : Int) := by omega
    have hiz0 : (0 : Int) ≤ (i : Int) := by omega
    by_cases hzx : z = x
    · subst hzx
      go_wp2
      go_ret
      exact ⟨rfl, HU⟩
    · have hij : i < j := by
        by_cases e : i = j
        · subst e
          exact absurd (HZ.out.symm.trans HJ.out) hzx
        · omega
      have HIJ : Hid (i + 1 ≤ j) := hij
      have HLT : Hid (i < n) := hlt
      go_wp2
      go_roundw
      case rel => exact ⟨i + 1, HIJ.out, by go_num, HU⟩
      case measure => have := HLT.out; simp [intOf]; omega
theorem near_ok {p q : Option Addr} {k c1 c2 : Nat} {r m : Nat → Int} {off : Int} {w : World} (hk : k ≤ 5) (hmm : ∀ i, i < k → 1 ≤ m i ∧ m i ≤ 4096) (hr : IR w p k r) (hm : IR w q k m) (h0 : 0 ≤ off) (h1 : off ≤ 100) {D : List Int} (hD : nears r m k off 8192 = D) : Calls Try.prog 6 #[.slice p k c1, .slice q k c2, .int .i64 off, .int .i64 8192] w fun e w' => ∃ p' cap', e = .returned (.tuple #[.slice p' D.length cap', .int .i64 0]) ∧ Hid (OI w.heap.size w' (.slice p' D.length cap') D ∧ Up w w') := by
  refine (t6 p q k k c1 c2 r m off 8192 w hr hm (by omega)).mono ?_
  have hb : (decide (off < 0) || decide ((8192 : Int) < 0)) = false := by
    rw [decide_eq_false (by omega), decide_eq_false (by omega)]; rfl
  rw [hb, ringsC_nil hk hmm, Nat.min_self]
  rintro e w' ⟨hu, h⟩
  rcases h with ⟨h, _⟩ | ⟨_, v, rfl, ho⟩
  · exact absurd (nearC_nil r m k off) h
  · subst hD
    obtain ⟨p', cap', rfl, _⟩ := own_form ho.out
    exact ⟨p', cap', rfl, ho.out, hu.out⟩
theorem near_first_ok {p q : Option Addr} {k c1 c2 : Nat} {r m : Nat → Int} {off : Int} {w : World} (hk : k ≤ 5) (hmm : ∀ i, i < k → 1 ≤ m i ∧ m i ≤ 4096) (hr : IR w p k r) (hm : IR w q k m) (h0 : 0 ≤ off) (h1 : off ≤ 100) {y : Int} (hD : ∃ t, nears r m k off 8192 = y :: t) : Calls Try.prog 6 #[.slice p k c1, .slice q k c2, .int .i64 off, .int .i64 8192] w fun e w' => ∃ g cap nn : Nat, e = .returned (.tuple #[.slice (some ⟨g, 0, none⟩) nn cap, .int .i64 0]) ∧ 0 < (nn : Int) ∧ (nn : Int) ≤ 8192 ∧ w'.cell? ⟨g, 0, none⟩ = some (.int .i64 y) ∧ Hid (Up w w') := by
  obtain ⟨t, ht⟩ := hD
  have hl := nears_len r m k off
  rw [ht] at hl
  refine (near_ok hk hmm hr hm h0 h1 ht).mono ?_
  rintro e w' ⟨p', cap', rfl, ho⟩
  obtain ⟨p2, cap2, he, hp⟩ := own_form ho.out.1
  simp only [Value.slice.injEq] at he
  obtain ⟨g, hg⟩ := hp (by simp)
  obtain ⟨rfl, _, _⟩ := he
  subst hg
  have hc := ho.out.1.cell (i := 0) (by simp)
  exact ⟨g, cap', (y :: t).length, rfl, by simp, by omega, hc, ho.out.2⟩
theorem near_none_ok {p q : Option Addr} {k c1 c2 : Nat} {r m : Nat → Int} {off : Int} {w : World} (hk : k ≤ 5) (hmm : ∀ i, i < k → 1 ≤ m i ∧ m i ≤ 4096) (hr : IR w p k r) (hm : IR w q k m) (h0 : 0 ≤ off) (h1 : off ≤ 100) (hD : nears r m k off 8192 = []) : Calls Try.prog 6 #[.slice p k c1, .slice q k c2, .int .i64 off, .int .i64 8192] w fun e w' => ∃ p' cap', e = .returned (.tuple #[.slice p' 0 cap', .int .i64 0]) ∧ Hid (Up w w') := by
  refine (near_ok hk hmm hr hm h0 h1 hD).mono ?_
  rintro e w' ⟨p', cap', rfl, ho⟩
  exact ⟨p', cap', rfl, ho.out.2⟩
theorem best_ok {p q : Option Addr} {k c1 c2 : Nat} {r m : Nat → Int} {X o : Int} {A B : List Int} {w : World} (hk : k ≤ 5) (hmm : ∀ i, i < k → 1 ≤ m i ∧ m i ≤ 4096) (hr : IR w p k r) (hm : IR w q k m) (hV : MV r m k X o A B) : Calls Try.prog 8 #[.slice p k c1, .slice q k c2, .int .i64 8192] w fun e w' => ∃ y le, e = .returned (.tuple #[.int .i64 y, .int .i64 le, .int .i64 0]) ∧ 0 ≤ le ∧ le ≤ o ∧ Hid (Up w w') ∧ Hid ((∃ t, nears r m k le 8192 = y :: t) ∧ nears r m k (le - 1) 8192 = []) := by
  refine (t8 p q k k c1 c2 r m 8192 w hr hm).mono ?_
  have hb : decide ((8192 : Int) < 1) = false := by decide
  rw [hb, ringsC_nil hk hmm, Nat.min_self]
  rintro e w' ⟨hu, h⟩
  rcases h with ⟨h, _⟩ | ⟨_, y, rfl, hB⟩
  · exact absurd rfl h
  · obtain ⟨h1, h2, h3, h4⟩ := hV.best y hB.out
    exact ⟨y, worst r m y k, rfl, h1, h2, hu, h3, h4⟩
end Go.Proofs.Ytpahjenfkgcdlab

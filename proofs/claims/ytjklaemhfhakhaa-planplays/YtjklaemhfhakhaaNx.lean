/- A step of the law: Until. -/
import Derived.Test.YtjklaemhfhakhaaNt
import Derived.Test.YtjklaemhfhakhaaKe
import Derived.Test.YtjklaemhfhakhaaDb
namespace Go.Proofs.Ytjklaemhfhakhaa
open Go.ChangeShapes Go.WideShapes Go.ChangeAt Go.RowKit

/-- What a step leaves: both plans are one, and of all else nothing has turned. -/
def StepR (w : World) (L : Ly) (M : RL) (n N : Nat) (e : Ending) (w' : World) : Prop := e = .returned (.bool true) ∧ ∃ L' M' p' X', Hid (Both w' L' M' n N p' X') ∧ L'.bp = L.bp ∧ M'.bp = M.bp ∧ Hid (Kp (fun b => ¬ L.Own n b ∧ ¬ M.Own n b) w w') ∧ Hid (∀ b, L'.Own n b ∨ M'.Own n b → (L.Own n b ∨ M.Own n b) ∨ w.heap.size ≤ b)
theorem until_length {n : Nat} {T : Int} : ∀ (k : Nat) (p : Pl), (untilN n T k p).1.length ≤ k
  | 0, _ => Nat.le_refl _
  | k + 1, p => by
    rw [untilN]
    split
    · split
      · exact Nat.zero_le _
      · exact Nat.succ_le_succ (until_length k _)
    · exact Nat.zero_le _
set_option maxHeartbeats 4000000 in
theorem t12u {w : World} {L : Ly} {M : RL} {n N : Nat} {p : Pl} {X : Nat → On} (h : Both w L M n N p X) (hn : n ≤ 256) (hN : N ≤ 800000) (t i e l r : Int) (ht : -9223372036854775808 ≤ t) : Calls Try.prog 12 #[.pointer (some ⟨L.bp, 0, none⟩), .pointer (some ⟨M.bp, 0, none⟩), .agg #[.int .i64 1, .int .i64 t, .int .i64 i, .int .i64 e, .int .i64 l, .int .i64 r]] w (StepR w L M n N) := by
  have H : Hid (Both w L M n N p X) := h
  have HU : Hid (Up w (w.alloc (.cells #[.int .i64 1, .int .i64 t, .int .i64 i, .int .i64 e, .int .i64 l, .int .i64 r] 36))) := Up.alloc _ _
  clear h
  go_enter Try.func12, Try.ntmps12
  go_upto_region 12 with fail
  have HB : Hid (Both (w.alloc (.cells #[.int .i64 1, .int .i64 t, .int .i64 i, .int .i64 e, .int .i64 l, .int .i64 r] 36)) L M n N p X) := H.out.up HU.out
  generalize w.alloc (.cells #[.int .i64 1, .int .i64 t, .int .i64 i, .int .i64 e, .int .i64 l, .int .i64 r] 36) = W at *
  generalize w.heap.size = G at *
  have HF0 : Hid (Few n 800000 p) := fun i hi => Nat.le_trans (HB.out.two.few i hi) hN
  go_wp2_with (first
    | (go_at_call 18; (with_reducible refine (t18 HB.out.pw HB.out.lo (HB.out.two.pb (by omega)) hn t ht).mono ?_); rintro q w1 ⟨pp, c, L1, rfl, HS1, HP1, HPB1, HK1⟩; (have HA1 := HB.out.ap.left HB.out.rw' HK1.out.g); (have HAA : Hid (RW w1 M n p.now X ∧ Aside L1 M n) := HA1); clear HA1)
    | (go_at_call 29; ((with_reducible refine (t29 (n := n) (p := p) (X := X) ⟨HAA.out.1, HB.out.two.ab, HB.out.two.ok, HB.out.two.pb (by omega)⟩ HB.out.mo hn HF0.out t ht).mono ?_); rintro q w2 ⟨pp2, c2, M1, X1, rfl, HS2, HR2, HK2, HF2⟩; (have HA2 := HAA.out.2.right HP1.out HK2.out); (have HAB : Hid (PW w2 L1 n (untilN n (min t 1152921504606846976) 65536 p).2 ∧ Aside L1 M1 n) := HA2); clear HA2; (have HS3 : Hid (SO W.heap.size w2 (.slice pp (untilN n (min t 1152921504606846976) 65536 p).1.length c) (untilN n (min t 1152921504606846976) 65536 p).1) := HS1.out.kp HK2.out.kp (fun r hr q => absurd (HB.out.rw'.own_lt q) (by have := (World.ownsRow.lt HS1.out r hr).1; omega)))))
    | (go_at_call 22; (with_reducible refine (t22 HS3.out HS2.out (SO.apart HS1.out HS2.out (Nat.le_refl _)) (Nat.le_trans (until_length _ _) (by decide)) (Nat.le_trans HK1.out.kp.size HK2.out.kp.size)).mono ?_); rintro q w3 ⟨rfl, HK3⟩))
  go_ret
  have n1 := HU.out.size
  have n2 := HK1.out.kp.size
  have n3 := HK2.out.kp.size
  have o1 : ∀ g, L1.Own n g → g < W.heap.size := fun g hg => HB.out.pw.own_less (HK1.out.own g hg)
  have v1 : ∀ g, some g = (Value.slice pp (untilN n (min t 1152921504606846976) 65536 p).1.length c).ownBlock → W.heap.size ≤ g ∧ g < w1.heap.size := fun g e => World.ownsRow.lt HS1.out g e.symm
  have hP3 : PW w3 L1 n (untilN n (min t 1152921504606846976) 65536 p).2 := HAB.out.1.kp HK3.out (fun g hg e => by
    have := o1 g hg
    have := (v1 g e).1
    omega)
  have hR3 : RW w3 M1 n (untilN n (min t 1152921504606846976) 65536 p).2.now X1 := HR2.out.rw'.kp HK3.out (fun g hg e => by
    have := v1 g e
    rcases HK2.out.own g hg with q | q
    · have := HB.out.rw'.own_lt q
      omega
    · omega)
  refine ⟨rfl, L1, M1, _, X1, (⟨hP3, HK1.out.ok, hR3, HK2.out.ok, HAB.out.2, ⟨HR2.out.pb.now, HR2.out.abs, HR2.out.ok, Few.until HB.out.two.few⟩⟩ : Both w3 L1 M1 n N (untilN n (min t 1152921504606846976) 65536 p).2 X1), HK1.out.bp, HK2.out.bp, ?_, fun b hb => ?_⟩
  · have k : Kp (fun b => b < w.heap.size ∧ ¬ L.Own n b ∧ ¬ M.Own n b) w w3 := (((Kp.of_up HU.out).trans (HK1.out.kp.mono (fun b _ q => q.2.1))).trans (HK2.out.kp.mono (fun b _ q => q.2.2))).trans (HK3.out.mono (fun b _ q e => by
      have := (v1 b e).1
      omega))
    exact k.mono (fun b hb q => ⟨hb, q⟩)
  · rcases hb with hb | hb
    · exact Or.inl (Or.inl (HK1.out.own b hb))
    · rcases HK2.out.own b hb with q | q
      · exact Or.inl (Or.inr q)
      · exact Or.inr (by omega)
end Go.Proofs.Ytjklaemhfhakhaa

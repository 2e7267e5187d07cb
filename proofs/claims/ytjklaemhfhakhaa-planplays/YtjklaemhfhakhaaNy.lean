/- A step of the law: Next. -/
import Derived.Test.YtjklaemhfhakhaaNx
import Derived.Test.YtjklaemhfhakhaaNm
import Derived.Test.YtjklaemhfhakhaaEe
namespace Go.Proofs.Ytjklaemhfhakhaa
open Go.ChangeShapes Go.WideShapes Go.ChangeAt Go.RowKit

/-- Nothing but new memory. -/
theorem StepR.up {w w' : World} {L : Ly} {M : RL} {n N : Nat} {p : Pl} {X : Nat → On} (h : Both w' L M n N p X) (hu : Up w w') : StepR w L M n N (.returned (.bool true)) w' :=
  ⟨rfl, L, M, p, X, h, rfl, rfl, Kp.of_up hu, fun _ hb => Or.inl hb⟩
/-- The program's Next and the document's, each told one way. -/
theorem c17 {W : World} {L : Ly} {n : Nat} {p : Pl} (h : PW W L n p) (hL : L.Ok n) (hb : PB n p) (hn : n ≤ 256) (h0 : 0 < n) (ht : nextE n p ≤ 1152921504606846976) {s : Sl} (hs : (nextP n p).1 = s) :
    Calls Try.prog 17 #[.pointer (some ⟨L.bp, 0, none⟩)] W (DoR W L n (nextP n p).2 (.tuple #[.agg #[.int .i64 s.t, .int .i64 s.f, .int .i64 s.e, .bool s.l], .int .i64 0])) := by
  have := (t17k h hL hb hn h0 ht).1
  rw [hs] at this
  exact this
theorem c17f {W : World} {L : Ly} {n : Nat} {p : Pl} (h : PW W L n p) (hL : L.Ok n) (hb : PB n p) (hn : n ≤ 256) (h0 : 0 < n) (ht : 1152921504606846976 < nextE n p) :
    Calls Try.prog 17 #[.pointer (some ⟨L.bp, 0, none⟩)] W (VU W (.tuple #[.agg #[.int .i64 0, .int .i64 0, .int .i64 0, .bool false], .int .i64 3])) := by
  obtain ⟨m, f, q1, q2, q3⟩ := next_of hb h0
  exact t17f h hL hb hn q1.runs q3 ht
def NxO (W : World) (M : RL) (n : Nat) (p2 : Pl) (v : Value) (e : Ending) (w' : World) : Prop := e = .returned v ∧ ∃ M' X', Hid (RQ w' M' n p2 X') ∧ Hid (RKept n W w' M M')
theorem c27 {W : World} {M : RL} {n : Nat} {p : Pl} {X : Nat → On} (h : RQ W M n p X) (hM : M.Ok n) (h0 : 0 < n) (hn : n ≤ 256) (hF : Few n 800000 p) (ht : nextE n p ≤ 1152921504606846976) {s : Sl} (hs : (nextP n p).1 = s) :
    Calls Try.prog 27 #[.pointer (some ⟨M.bp, 0, none⟩)] W (NxO W M n (nextP n p).2 (.tuple #[.agg #[.int .i64 s.t, .int .i64 s.f, .int .i64 s.e, .bool s.l], .int .i64 0])) := by
  refine (t27 h hM h0 hn hF).mono ?_
  rintro e w' (⟨M', X', rfl, _, k1, k2⟩ | ⟨q, _, _⟩)
  · refine ⟨?_, M', X', k1, k2⟩
    rw [hs]
    rfl
  · omega
theorem c27f {W : World} {M : RL} {n : Nat} {p : Pl} {X : Nat → On} (h : RQ W M n p X) (hM : M.Ok n) (h0 : 0 < n) (hn : n ≤ 256) (hF : Few n 800000 p) (ht : 1152921504606846976 < nextE n p) :
    Calls Try.prog 27 #[.pointer (some ⟨M.bp, 0, none⟩)] W (VU W (.tuple #[.agg #[.int .i64 0, .int .i64 0, .int .i64 0, .bool false], .int .i64 3])) := by
  refine (t27 h hM h0 hn hF).mono ?_
  rintro e w' (⟨M', X', _, q, _, _⟩ | ⟨_, rfl, k⟩)
  · omega
  · exact ⟨rfl, k⟩
set_option maxHeartbeats 4000000 in
theorem t12z {w : World} {L : Ly} {M : RL} {N : Nat} {p : Pl} {X : Nat → On} (h : Both w L M 0 N p X) (t i e l r : Int) : Calls Try.prog 12 #[.pointer (some ⟨L.bp, 0, none⟩), .pointer (some ⟨M.bp, 0, none⟩), .agg #[.int .i64 0, .int .i64 t, .int .i64 i, .int .i64 e, .int .i64 l, .int .i64 r]] w (StepR w L M 0 N) := by
  have H : Hid (Both w L M 0 N p X) := h
  have HU : Hid (Up w (w.alloc (.cells #[.int .i64 0, .int .i64 t, .int .i64 i, .int .i64 e, .int .i64 l, .int .i64 r] 36))) := Up.alloc _ _
  clear h
  go_enter Try.func12, Try.ntmps12
  go_upto_region 4 with fail
  have HB : Hid (Both (w.alloc (.cells #[.int .i64 0, .int .i64 t, .int .i64 i, .int .i64 e, .int .i64 l, .int .i64 r] 36)) L M 0 N p X) := H.out.up HU.out
  generalize w.alloc (.cells #[.int .i64 0, .int .i64 t, .int .i64 i, .int .i64 e, .int .i64 l, .int .i64 r] 36) = W at *
  generalize w.heap.size = G at *
  have C17 : Hid (Calls Try.prog 17 #[.pointer (some ⟨L.bp, 0, none⟩)] W (VU W (.tuple #[.agg #[.int .i64 0, .int .i64 0, .int .i64 0, .bool false], .int .i64 240]))) := t17z HB.out.pw
  go_wp2_with (first
    | (go_at_call 17; (with_reducible refine C17.out.mono ?_); rintro e w1 ⟨rfl, HU1⟩; (have HB1 : Hid (Both (w1.alloc (.cells #[.int .i64 0, .int .i64 0, .int .i64 0, .bool false] 42)) L M 0 N p X) := HB.out.up (HU1.out.trans (Up.alloc _ _))); (have HS1 : Hid (SAt (w1.alloc (.cells #[.int .i64 0, .int .i64 0, .int .i64 0, .bool false] 42)) w1.heap.size ⟨0, 0, 0, false⟩) := SAt.of (heap_alloc_last w1 _)))
    | (go_at_call 27; (with_reducible refine (t27z HB1.out.rw').mono ?_); rintro e w2 ⟨rfl, HU2⟩; (have HB2 : Hid (Both w2 L M 0 N p X) := HB1.out.up HU2.out); (have HS2 : Hid (SAt w2 w1.heap.size ⟨0, 0, 0, false⟩) := HS1.out.up HU2.out); (obtain ⟨s0, s1, s2, s3, -⟩ := HS2.out); simp only at s0 s1 s2 s3; (have hlt := World.block_lt_of_cell? w2 _ s0); simp only at hlt))
  go_ret
  exact StepR.up (HB2.out.up (Up.alloc _ _)) ((((HU.out.trans HU1.out).trans (Up.alloc _ _)).trans HU2.out).trans (Up.alloc _ _))
set_option maxHeartbeats 4000000 in
theorem t12f {w : World} {L : Ly} {M : RL} {n N : Nat} {p : Pl} {X : Nat → On} (h : Both w L M n N p X) (hn : n ≤ 256) (hN : N ≤ 800000) (h0 : 0 < n) (ht : 1152921504606846976 < nextE n p) (t i e l r : Int) : Calls Try.prog 12 #[.pointer (some ⟨L.bp, 0, none⟩), .pointer (some ⟨M.bp, 0, none⟩), .agg #[.int .i64 0, .int .i64 t, .int .i64 i, .int .i64 e, .int .i64 l, .int .i64 r]] w (StepR w L M n N) := by
  have H : Hid (Both w L M n N p X) := h
  have HU : Hid (Up w (w.alloc (.cells #[.int .i64 0, .int .i64 t, .int .i64 i, .int .i64 e, .int .i64 l, .int .i64 r] 36))) := Up.alloc _ _
  have HF0 : Hid (Few n 800000 p) := fun i hi => Nat.le_trans (h.two.few i hi) hN
  have HT : Hid (1152921504606846976 < nextE n p) := ht
  clear h ht
  go_enter Try.func12, Try.ntmps12
  go_upto_region 4 with fail
  have HB : Hid (Both (w.alloc (.cells #[.int .i64 0, .int .i64 t, .int .i64 i, .int .i64 e, .int .i64 l, .int .i64 r] 36)) L M n N p X) := H.out.up HU.out
  generalize w.alloc (.cells #[.int .i64 0, .int .i64 t, .int .i64 i, .int .i64 e, .int .i64 l, .int .i64 r] 36) = W at *
  generalize w.heap.size = G at *
  have C17 : Hid (Calls Try.prog 17 #[.pointer (some ⟨L.bp, 0, none⟩)] W (VU W (.tuple #[.agg #[.int .i64 0, .int .i64 0, .int .i64 0, .bool false], .int .i64 3]))) := c17f HB.out.pw HB.out.lo (HB.out.two.pb (by omega)) hn h0 HT.out
  go_wp2_with (first
    | (go_at_call 17; (with_reducible refine C17.out.mono ?_); rintro e w1 ⟨rfl, HU1⟩; (have HB1 : Hid (Both (w1.alloc (.cells #[.int .i64 0, .int .i64 0, .int .i64 0, .bool false] 42)) L M n N p X) := HB.out.up (HU1.out.trans (Up.alloc _ _))); (have HS1 : Hid (SAt (w1.alloc (.cells #[.int .i64 0, .int .i64 0, .int .i64 0, .bool false] 42)) w1.heap.size ⟨0, 0, 0, false⟩) := SAt.of (heap_alloc_last w1 _)))
    | (go_at_call 27; (with_reducible refine (c27f (HB1.out.rq (by omega)) HB1.out.mo h0 hn HF0.out HT.out).mono ?_); rintro e w2 ⟨rfl, HU2⟩; (have HB2 : Hid (Both w2 L M n N p X) := HB1.out.up HU2.out); (have HS2 : Hid (SAt w2 w1.heap.size ⟨0, 0, 0, false⟩) := HS1.out.up HU2.out); (obtain ⟨s0, s1, s2, s3, -⟩ := HS2.out); simp only at s0 s1 s2 s3; (have hlt := World.block_lt_of_cell? w2 _ s0); simp only at hlt))
  go_ret
  exact StepR.up (HB2.out.up (Up.alloc _ _)) ((((HU.out.trans HU1.out).trans (Up.alloc _ _)).trans HU2.out).trans (Up.alloc _ _))
theorem Few.next {n N : Nat} {p : Pl} (h : Few n N p) : Few n N (nextP n p).2 := Few.go h _ _ _
set_option maxHeartbeats 4000000 in
theorem t12a {w : World} {L : Ly} {M : RL} {n N : Nat} {p : Pl} {X : Nat → On} (h : Both w L M n N p X) (hn : n ≤ 256) (hN : N ≤ 800000) (h0 : 0 < n) (ht : nextE n p ≤ 1152921504606846976) (t i e l r : Int) : Calls Try.prog 12 #[.pointer (some ⟨L.bp, 0, none⟩), .pointer (some ⟨M.bp, 0, none⟩), .agg #[.int .i64 0, .int .i64 t, .int .i64 i, .int .i64 e, .int .i64 l, .int .i64 r]] w (StepR w L M n N) := by
  have H : Hid (Both w L M n N p X) := h
  have HU : Hid (Up w (w.alloc (.cells #[.int .i64 0, .int .i64 t, .int .i64 i, .int .i64 e, .int .i64 l, .int .i64 r] 36))) := Up.alloc _ _
  have HF0 : Hid (Few n 800000 p) := fun i hi => Nat.le_trans (h.two.few i hi) hN
  have HT : Hid (nextE n p ≤ 1152921504606846976) := ht
  obtain ⟨s, hs⟩ : ∃ s, (nextP n p).1 = s := ⟨_, rfl⟩
  have HS : Hid ((nextP n p).1 = s) := hs
  clear h ht hs
  obtain ⟨st, sf, se, sl⟩ := s
  go_enter Try.func12, Try.ntmps12
  go_upto_region 4 with fail
  have HB : Hid (Both (w.alloc (.cells #[.int .i64 0, .int .i64 t, .int .i64 i, .int .i64 e, .int .i64 l, .int .i64 r] 36)) L M n N p X) := H.out.up HU.out
  generalize w.alloc (.cells #[.int .i64 0, .int .i64 t, .int .i64 i, .int .i64 e, .int .i64 l, .int .i64 r] 36) = W at *
  generalize w.heap.size = G at *
  have C17 : Hid (Calls Try.prog 17 #[.pointer (some ⟨L.bp, 0, none⟩)] W (DoR W L n (nextP n p).2 (.tuple #[.agg #[.int .i64 st, .int .i64 sf, .int .i64 se, .bool sl], .int .i64 0]))) := c17 HB.out.pw HB.out.lo (HB.out.two.pb (by omega)) hn h0 HT.out HS.out
  have C27 : ∀ V, Hid (RW V M n p.now X → Calls Try.prog 27 #[.pointer (some ⟨M.bp, 0, none⟩)] V (NxO V M n (nextP n p).2 (.tuple #[.agg #[.int .i64 st, .int .i64 sf, .int .i64 se, .bool sl], .int .i64 0]))) := fun V hV => c27 ⟨hV, HB.out.two.ab, HB.out.two.ok, HB.out.two.pb (by omega)⟩ HB.out.mo h0 hn HF0.out HT.out HS.out
  go_wp2_with (first
    | (go_at_call 17; (with_reducible refine C17.out.mono ?_); rintro e w1 ⟨rfl, L1, HP1, HK1⟩; (have HA1 : Hid (RW (w1.alloc (.cells #[.int .i64 st, .int .i64 sf, .int .i64 se, .bool sl] 42)) M n p.now X ∧ Aside L1 M n) := ⟨(HB.out.ap.left HB.out.rw' HK1.out.g).1.up (Up.alloc _ _), (HB.out.ap.left HB.out.rw' HK1.out.g).2⟩); (have HS1 : Hid (SAt (w1.alloc (.cells #[.int .i64 st, .int .i64 sf, .int .i64 se, .bool sl] 42)) w1.heap.size ⟨st, sf, se, sl⟩) := SAt.of (heap_alloc_last w1 _)))
    | (go_at_call 27; (with_reducible refine ((C27 _).out HA1.out.1).mono ?_); rintro e w2 ⟨rfl, M1, X1, HR2, HK2⟩; (have HS2 : Hid (SAt w2 w1.heap.size ⟨st, sf, se, sl⟩) := HS1.out.kp HK2.out.kp (fun q => absurd (HB.out.rw'.own_lt q) (by have := HK1.out.kp.size; omega))); (obtain ⟨s0, s1, s2, s3, -⟩ := HS2.out); simp only at s0 s1 s2 s3; (have hlt := World.block_lt_of_cell? w2 _ s0); simp only at hlt))
  go_ret
  have hA2 := HA1.out.2.right (HP1.out.up (Up.alloc _ _)) HK2.out
  have n1 := HU.out.size
  have n2 := HK1.out.kp.size
  have n3 := HK2.out.kp.size
  have n4 := (Up.alloc w1 (.cells #[.int .i64 st, .int .i64 sf, .int .i64 se, .bool sl] 42)).size
  have hB : Both w2 L1 M1 n N (nextP n p).2 X1 := ⟨hA2.1, HK1.out.ok, HR2.out.rw', HK2.out.ok, hA2.2, ⟨HR2.out.pb.now, HR2.out.abs, HR2.out.ok, Few.next HB.out.two.few⟩⟩
  refine ⟨rfl, L1, M1, _, X1, hB.up (Up.alloc _ _), HK1.out.bp, HK2.out.bp, ?_, fun b hb => ?_⟩
  · exact ((((Kp.of_up HU.out).trans (HK1.out.kp.mono (fun b _ q => q.1))).trans (Kp.of_up (Up.alloc _ _))).trans (HK2.out.kp.mono (fun b _ q => q.2))).trans (Kp.of_up (Up.alloc _ _))
  · rcases hb with hb | hb
    · exact Or.inl (Or.inl (HK1.out.own b hb))
    · rcases HK2.out.own b hb with q | q
      · exact Or.inl (Or.inr q)
      · exact Or.inr (by omega)
end Go.Proofs.Ytjklaemhfhakhaa

/- Two answers of one call, and what the document says: told. -/
import Derived.Test.YtjnggbpifclpcaaI
namespace Go.Proofs.Ytjnggbpifclpcaa
open Go.ChangeShapes Go.WideShapes Go.ChangeAt Go.RowKit Go.Fl Ieee
attribute [local go_sem] run_store_float run_store_complex call34 call33 run_neg fold_eq fold_ne fold_lt fold_gt abs_eq

/-- Neither lies in the other's block. -/
def Apart (u v : Value) : Prop := u.ownBlock = none ∨ u.ownBlock ≠ v.ownBlock
/-- What told leans on, as the rows stand. -/
structure Rows3 (m : Nat) (w0 w : World) (va vb vw : Value) (n : Nat) (db dw : List (Nat × Nat)) : Prop where
  a : ∃ d, d.length = n ∧ CRow m w va d
  b : ∃ b, CRow b w vb db
  c : ∃ b, SRow b w vw dw
  ab : Apart vb va
  ac : Apart vw va
  below : Below m w0 w
  le : m ≤ w0.heap.size
theorem Rows3.up {m : Nat} {w0 w w' : World} {va vb vw : Value} {n : Nat} {db dw : List (Nat × Nat)} (h : Rows3 m w0 w va vb vw n db dw) (hu : Up w w') : Rows3 m w0 w' va vb vw n db dw := by
  obtain ⟨d, hd, ha⟩ := h.a
  obtain ⟨b, hb⟩ := h.b
  obtain ⟨c, hc⟩ := h.c
  exact ⟨⟨d, hd, ha.up hu⟩, ⟨b, hb.up hu⟩, ⟨c, hc.up hu⟩, h.ab, h.ac, h.below.trans (Below.mono hu (Nat.le_trans h.le h.below.size)), h.le⟩
theorem Rows3.grown {m : Nat} {w0 w w' : World} {va vb vw : Value} {n : Nat} {db dw : List (Nat × Nat)} (h : Rows3 m w0 w va vb vw n db dw) (hg : w.grownBy w' va.ownBlock) {va' : Value} {n' : Nat} (ha' : ∃ d, d.length = n' ∧ CRow m w' va' d) (hv : va'.ownBlock = va.ownBlock ∨ ∃ k, va'.ownBlock = some k ∧ w.heap.size ≤ k) : Rows3 m w0 w' va' vb vw n' db dw := by
  obtain ⟨d, hd, ha⟩ := h.a
  obtain ⟨b, hb⟩ := h.b
  obtain ⟨c, hc⟩ := h.c
  refine ⟨ha', ⟨b, World.ownsRow.kept hb hg h.ab⟩, ⟨c, World.ownsRow.kept hc hg h.ac⟩, ?_, ?_, h.below.grown hg (Nat.le_trans h.le h.below.size) (fun j hj => (World.ownsRow.lt ha j hj).1), h.le⟩
  · rcases hv with hv | ⟨k, hk, hkk⟩
    · unfold Apart; rw [hv]; exact h.ab
    · unfold Apart; rw [hk]
      rcases hbn : vb.ownBlock with _ | j
      · exact Or.inl rfl
      · have := (World.ownsRow.lt hb j hbn).2
        exact Or.inr (fun e => by cases e; omega)
  · rcases hv with hv | ⟨k, hk, hkk⟩
    · unfold Apart; rw [hv]; exact h.ac
    · unfold Apart; rw [hk]
      rcases hbn : vw.ownBlock with _ | j
      · exact Or.inl rfl
      · have := (World.ownsRow.lt hc j hbn).2
        exact Or.inr (fun e => by cases e; omega)
theorem Rows3.stored {m : Nat} {w0 w : World} {g n cap : Nat} {vb vw : Value} {db dw : List (Nat × Nat)} (h : Rows3 m w0 w (.slice (some ⟨g, 0, none⟩) n cap) vb vw n db dw) (j x y : Nat) : Rows3 m w0 (w.setCell ⟨g, j, none⟩ (.complex .f64 x y)) (.slice (some ⟨g, 0, none⟩) n cap) vb vw n db dw := by
  obtain ⟨d, rfl, ha⟩ := h.a
  obtain ⟨s1, s2⟩ := World.ownsRow.stored ha j (.complex .f64 x y)
  refine h.grown s2 ⟨d.set j (x, y), by simp, ?_⟩ (Or.inl rfl)
  unfold CRow
  rw [List.length_set, List.map_set]
  exact s1
theorem Rows3.cell {m : Nat} {w0 w : World} {g n cap : Nat} {vb vw : Value} {db dw : List (Nat × Nat)} (h : Rows3 m w0 w (.slice (some ⟨g, 0, none⟩) n cap) vb vw n db dw) {i : Nat} (hi : i < n) : (∃ x y, w.cell? ⟨g, i, none⟩ = some (.complex .f64 x y)) ∧ w.frozen? ⟨g, i, none⟩ = false := by
  obtain ⟨d, rfl, ha⟩ := h.a
  exact ⟨⟨_, _, ha.cell hi⟩, World.ownsRow.frozenAt ha i⟩
theorem Rows3.form {m : Nat} {w0 w : World} {n : Nat} {va vb vw : Value} {db dw : List (Nat × Nat)} (h : Rows3 m w0 w va vb vw n db dw) : ∃ p cap, va = .slice p n cap ∧ (0 < n → ∃ g, p = some ⟨g, 0, none⟩) := by
  obtain ⟨d, rfl, ha⟩ := h.a
  exact own_form ha
theorem Rows3.formc {m : Nat} {w0 w : World} {n : Nat} {va vb vw : Value} {db dw : List (Nat × Nat)} (h : Rows3 m w0 w va vb vw n db dw) : ∃ p cap, vw = .slice p dw.length cap := by
  obtain ⟨b, hb⟩ := h.c
  obtain ⟨p, cap, e, _⟩ := own_form hb
  exact ⟨p, cap, e⟩
theorem sameA {m : Nat} {w0 w : World} {va vb vw : Value} {n : Nat} {db dw da : List (Nat × Nat)} (h : Rows3 m w0 w va vb vw n db dw) (ha : CRow m w va da) (hs : da.map ab2 = dw.map ab2) (hn : da.length < 1000000000) : Calls Try.prog 25 #[va, vw] w (TU w) := by
  obtain ⟨c, hc⟩ := h.c
  exact t25 ha hc hs hn
theorem sameB {m : Nat} {w0 w : World} {va vb vw : Value} {n : Nat} {db dw : List (Nat × Nat)} (h : Rows3 m w0 w va vb vw n db dw) (hs : db.map ab2 = dw.map ab2) (hn : db.length < 1000000000) : Calls Try.prog 25 #[vb, vw] w (TU w) := by
  obtain ⟨b, hb⟩ := h.b
  obtain ⟨c, hc⟩ := h.c
  exact t25 hb hc hs hn

theorem cell_newc (w : World) (x y : Nat) (t : TypeId) : ∀ (j : Nat) (u : Value), [Value.complex .f64 x y][j]? = some u → (w.alloc (.cells #[.complex .f64 x y] t)).cell? ((⟨w.heap.size, 0, none⟩ : Addr).add j) = some u := by
  intro j u hj
  match j, hj with
  | 0, hj => simp at hj; subst hj; exact World.cell?_alloc_at _ _ _ _ rfl
theorem one_cellc (x y : Nat) : ∀ u ∈ [Value.complex .f64 x y], u.oneCell' = true := by
  intro u hu; simp at hu; subst hu; rfl
set_option maxRecDepth 20000 in
set_option maxHeartbeats 2000000 in
theorem t9 {m : Nat} {w : World} {va vb vw : Value} {da db dw : List (Nat × Nat)} (c : Int) (hR : Rows3 m w w va vb vw da.length db dw) (ha : CRow m w va da) (hsa : da.map ab2 = dw.map ab2) (hsb : db.map ab2 = dw.map ab2) (hn : da.length < 1000000) :
    Calls Try.prog 9 #[va, vb, .int .i64 c, .int .i64 c, vw, .int .i64 c] w fun e w' => e = .returned (.bool true) ∧ Hid (Below m w w') := by
  obtain ⟨i0, hi, hz0, hz1, hz2⟩ := info_parts info41
  obtain ⟨pa, ca, rfl, hpa⟩ := hR.form
  obtain ⟨pw, cw, rfl⟩ := hR.formc
  have la : da.length = dw.length := by simpa using congrArg List.length hsa
  have lb : db.length = dw.length := by simpa using congrArg List.length hsb
  have HA : Hid (CRow m w (.slice pa da.length ca) da) := ha
  have HSA : Hid (da.map ab2 = dw.map ab2) := hsa
  have HSB : Hid (db.map ab2 = dw.map ab2) := hsb
  have HPA : Hid (0 < da.length → ∃ g, pa = some ⟨g, 0, none⟩) := hpa
  clear ha hsa hsb hpa
  rw [la] at hR HA HPA hn ⊢
  have HR : Hid (Rows3 m w w (.slice pa dw.length ca) vb (.slice pw dw.length cw) dw.length db dw) := hR
  have LA : Hid (da.length = dw.length) := la
  have LB : Hid (db.length = dw.length) := lb
  clear hR la lb
  generalize hN : dw.length = N at *
  have HN : Hid (dw.length = N) := hN
  clear hN
  go_enter Try.func9, Try.ntmps9
  go_wp2_with (first
    | (go_at_call 25; refine (sameA HR.out HA.out HSA.out (by rw [LA.out]; omega)).mono ?_; rintro e w1 ⟨rfl, hu1⟩; have HR1 : Hid (Rows3 m w w1 (.slice pa N ca) vb (.slice pw N cw) N db dw) := HR.out.up hu1.out; clear HR HA)
    | (go_at_call 25; refine (sameB HR1.out HSB.out (by rw [LB.out]; omega)).mono ?_; rintro e w2 ⟨rfl, hu2⟩; have HR2 : Hid (Rows3 m w w2 (.slice pa N ca) vb (.slice pw N cw) N db dw) := HR1.out.up hu2.out; clear HR1))
  go_loopw [13] (fun i wr => ∃ k : Nat, k ≤ N ∧ i = .int .i64 k ∧ Hid (Rows3 m w wr (.slice pa N ca) vb (.slice pw N cw) N db dw)) (fun i _ => N - (intOf i).toNat)
  case atStart => exact ⟨0, by omega, rfl, HR2⟩
  case round =>
    clear HR2 hu2 hu1
    obtain ⟨k, hk, rfl, HT⟩ := hrel
    by_cases hlt : k < N
    · obtain ⟨g, hg⟩ := HPA.out (by omega)
      subst hg
      obtain ⟨⟨x, y, hc⟩, hf⟩ := HT.out.cell hlt
      have hkz : (k : Int) < (N : Int) := by omega
      go_wp2
      go_roundw
      case rel => exact ⟨k + 1, by omega, by go_num, HT.out.stored _ _ _⟩
      case measure => simp [intOf]; omega
    · obtain rfl : N = k := by omega
      go_wp2
      go_loopw [0, 14] (fun v i wr => ∃ k : Nat, k ≤ 20 ∧ i = .int .i64 k ∧ Hid (Rows3 m w wr v vb (.slice pw N cw) (N + k) db dw)) (fun _ i _ => 20 - (intOf i).toNat)
      case atStart => exact ⟨0, by omega, rfl, HT⟩
      case round =>
        clear HT
        obtain ⟨j, hj, rfl, HT⟩ := hrel
        by_cases hlt2 : j < 20
        · obtain ⟨d, hd, hcr⟩ := HT.out.a
          have hown : wr.ownsRow m 40 1 u0 (N + j) (d.map ce) := by rw [← hd]; exact hcr
          have HD : Hid (d.length = N + j) := hd
          have sz : m ≤ wr.heap.size := Nat.le_trans HT.out.le HT.out.below.size
          clear hd hcr
          go_wp2_with (at_builtin; refine wpList_append_own_at _ rfl _ _ 27 rfl m 40 i0 (.complex .f64 0 0) 1 16 Try.underlying27 hi hz0 hz1 hz2 rfl (by decide) _ _ _ rfl (hown.alloc _) ⟨wr.heap.size, 0, none⟩ 1 1 [.complex .f64 13858561215837503488 4635189178982727680] rfl rfl (cell_newc _ _ _ _) (one_cellc _ _) (by unfold maxLen; omega) (by omega) (by simp; omega) ?_)
          intro v' w3 hown' hgrow _ hat
          have HT3 : Hid (Rows3 m w w3 v' vb (.slice pw N cw) (N + (j + 1)) db dw) := by
            refine (HT.out.up (Up.alloc _ _)).grown hgrow ⟨d ++ [(13858561215837503488, 4635189178982727680)], ?_, ?_⟩ ?_
            · simp [HD.out]; omega
            · unfold CRow
              rw [List.length_append, List.map_append, HD.out]
              exact hown'
            · rcases hat with h | h
              · exact Or.inl h
              · exact Or.inr ⟨_, h, by simp⟩
          clear hown' hgrow hat hown HT
          go_wp2
          go_roundw
          case rel => exact ⟨j + 1, by omega, by go_num, HT3⟩
          case measure => simp [intOf]; omega
        · obtain rfl : j = 20 := by omega
          obtain ⟨p0, c0, hv0, _⟩ := HT.out.form
          subst hv0
          go_wp2_with (go_at_call 25; refine (sameB HT.out HSB.out (by rw [LB.out]; omega)).mono ?_; rintro e w4 ⟨rfl, hu4⟩)
          go_ret
          refine ⟨by simp, ?_⟩
          exact (HT.out.up hu4.out).below
end Go.Proofs.Ytjnggbpifclpcaa

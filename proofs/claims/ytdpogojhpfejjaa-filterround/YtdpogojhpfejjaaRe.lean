/- NewLine. -/
import Derived.Test.YtdpogojhpfejjaaRd
namespace Go.Proofs.Ytdpogojhpfejjaa
open Go.ChangeShapes Go.WideShapes Go.ChangeAt Go.RowKit Go.Fl Ieee
attribute [local go_sem] run_store_float run_store_c isSome_set call32 call31 run_neg fold_eq fold_ne fold_lt fold_gt abs_eq

theorem eql_nil (a : Option Addr) (l c : Nat) (w : World) : (binOp .eql 27 (.slice a l c) (.slice none 0 0)).run Try.prog w = .ok (.bool a.isNone) w := by
  have h := run_equal_slice_nil (P := Try.prog) w 27 28 a l c Try.underlying27
  simp [binOp, h]
attribute [local go_sem] eql_nil
theorem own_empty (w : World) : (w.alloc (.cells #[] 28)).ownsRow w.heap.size 28 1 (.slice (some ⟨w.heap.size, 0, none⟩) 0 0) 0 [] :=
  ⟨by simp, .inr ⟨w.heap.size, 0, #[], rfl, Nat.le_refl _, heap_alloc_last _ _, Nat.le_refl _, Nat.zero_le _, rfl, rfl⟩⟩
/-- What Clone leaves: a row of one's own, of the same numbers. -/
def CL (w : World) (n : Nat) (f : Nat → Nat × Nat) (e : Ending) (w' : World) : Prop := ∃ g cap, e = .returned (.slice (some ⟨g, 0, none⟩) n cap) ∧ Hid (RD w' g 0 n f ∧ n ≤ cap ∧ w.heap.size ≤ g ∧ g < w'.heap.size) ∧ Hid (Up w w')
theorem t12 (g o n c : Nat) (f : Nat → Nat × Nat) (w : World) (hR : RD w g o n f) (h1 : 1 ≤ n) (hn : n ≤ 100000) : Calls Try.prog 12 #[.slice (some ⟨g, o, none⟩) n c] w (CL w n f) := by
  obtain ⟨i0, hi, hz0, hz1, hz2⟩ := info_parts info26
  have HR : Hid (RD (w.alloc (.cells #[] 28)) g o n f) := hR.up (Up.alloc _ _)
  clear hR
  have hown : (w.alloc (.cells #[] 28)).ownsRow w.heap.size 28 1 (.slice (some ⟨w.heap.size, 0, none⟩) 0 0) 0 [] := own_empty w
  go_enter Try.func12, Try.ntmps12
  go_wp2_with (at_builtin; refine wpList_append_own _ rfl _ _ 27 rfl w.heap.size 28 i0 (.complex .f64 0 0) 1 16 Try.underlying27 hi hz0 hz1 hz2 rfl (by decide) _ _ _ rfl hown ⟨g, o, none⟩ n c ((cut f 0 n).map ce) rfl (by simp [cut_len]) (src_ok (o := 0) HR.out (by omega)) ce_one (by unfold maxLen; omega) (by omega) (by simp) ?_)
  intro v' w1 hown' hgrow _
  have O : Hid (CRow w.heap.size w1 v' (cut f 0 n)) := by
    show w1.ownsRow _ _ _ _ _ _
    rw [cut_len]; simpa using hown'
  have U : Hid (Up w w1) := RowKit.Below.grown ((Below.refl _ _).alloc (Nat.le_refl _) _) hgrow (by simp) (fun k hk => by simp [Value.ownBlock] at hk; omega)
  clear hown' hgrow hown
  rcases O.out.2 with ⟨_, h2⟩ | ⟨q, cap, cur, e, hl, _, hc, _⟩
  · rw [cut_len] at h2; omega
  subst e
  rw [cut_len] at hc O
  go_wp2
  go_ret
  refine ⟨q, cap, ?_, ⟨?_, hc, hl, (World.ownsRow.lt O.out _ rfl).2⟩, U⟩
  · show Ending.returned (.slice _ (cut f 0 n).length cap) = _
    rw [cut_len]
  · intro j hj
    have := O.out.cell (i := j) (by rw [cut_len]; exact hj)
    rw [cut_at f hj] at this
    rw [Nat.zero_add]; exact this
/-- What a make of an empty row with room leaves. -/
def Room (R g : Nat) (w w' : World) : Prop := w.heap.size = g ∧ w'.ownsRow g 28 1 (.slice (some ⟨g, 0, none⟩) 0 R) 0 [] ∧ Up w w'
theorem upon_room {o : Oper} {a : Act} {next : Act → World → Prop} {Q : Exit → Act → World → Prop} {n : Nat} {w : World} {F : Value → World → Result Next} (hn : n ≤ 100000)
    (hk : ∀ g w', Hid (Room n g w w') → o.upon Try.prog a next Q (F (.slice (some ⟨g, 0, none⟩) 0 n) w')) :
    o.upon Try.prog a next Q (((Instr.makeSlice 27 (.int .i64 0) (.int .i64 n)).run Try.prog w).andThen F) := by
  obtain ⟨i0, hi, hz0, hz1, hz2⟩ := info_parts info26
  obtain ⟨w', e, h1, h2⟩ := run_make_own (P := Try.prog) w w.heap.size 27 28 i0 (.complex .f64 0 0) 1 Try.underlying27 hi hz0 hz1 .i64 .i64 n (by rw [hz2]; omega) (by unfold maxLen; omega) (Nat.le_refl _)
  rw [e]
  exact hk _ _ ⟨rfl, h1, Below.grown (Below.refl _ _) h2 (Nat.le_refl _) (fun j hj => by cases hj)⟩
theorem own_down {b b' n : Nat} {w : World} {t : TypeId} {s : Nat} {v : Value} {xs : List Value} (h : w.ownsRow b t s v n xs) (hb : b' ≤ b) : w.ownsRow b' t s v n xs := by
  obtain ⟨h1, h2⟩ := h
  refine ⟨h1, ?_⟩
  rcases h2 with h2 | ⟨g, cap, cur, e, k2, k3⟩
  · exact Or.inl h2
  · exact Or.inr ⟨g, cap, cur, e, Nat.le_trans hb k2, k3⟩
theorem LN.new {b0 : Nat} {w : World} {gt ct gp R : Nat} {f : Nat → Nat × Nat} (ht : RD w gt 0 (R + 1) f) (hc : R + 1 ≤ ct) (lt : gt < w.heap.size) (hp : w.ownsRow gp 28 1 (.slice (some ⟨gp, 0, none⟩) 0 R) 0 []) (hne : gt ≠ gp) (hb : b0 ≤ w.heap.size) (hb2 : b0 ≤ gp) (hb3 : b0 ≤ gt) :
    LN b0 (w.alloc (.cells #[.slice (some ⟨gt, 0, none⟩) (R + 1) ct, .slice (some ⟨gp, 0, none⟩) 0 R] 47)) w.heap.size gt ct gp R f := by
  have l2 : gp < w.heap.size := (World.ownsRow.lt hp _ rfl).2
  have hh := heap_alloc_last w (.cells #[.slice (some ⟨gt, 0, none⟩) (R + 1) ct, .slice (some ⟨gp, 0, none⟩) 0 R] 47)
  refine ⟨⟨hb, hb2, hb3⟩, by omega, hne, by omega, ?_, ?_, ?_, ht.up (Up.alloc _ _), owns_up (own_down hp hb2) (Up.alloc _ _), hc⟩
  · rw [cell_of_row _ _ _ _ _ _ hh]; rfl
  · rw [cell_of_row _ _ _ _ _ _ hh]; rfl
  · exact World.frozen?_alloc_at _ _ _ _ rfl
def NL (w : World) (R : Nat) (f : Nat → Nat × Nat) (e : Ending) (w' : World) : Prop := ∃ b gt ct gp, e = .returned (.tuple #[.pointer (some ⟨b, 0, none⟩), .int .i64 0]) ∧ Hid (LN w.heap.size w' b gt ct gp R f) ∧ Hid (Up w w')
theorem rd_drew {g o m : Nat} {f : Nat → Nat × Nat} {w : World} (HR : Hid (RD w g o m f)) : RD w.drew g o m f := HR.out.up (Up.drew _)
theorem rd_room {g o m n gr : Nat} {f : Nat → Nat × Nat} {w w2 : World} (HR : Hid (RD w g o m f)) (HM : Hid (Room n gr w.drew w2)) : RD w2 g o m f := HR.out.up ((Up.drew _).trans HM.out.2.2)
set_option maxRecDepth 10000 in
set_option maxHeartbeats 1000000 in
theorem t6 (g R c : Nat) (f : Nat → Nat × Nat) (w : World) (hR : RD w g 0 (R + 1) f) (h1 : 1 ≤ R) (hn : R ≤ 200) : Calls Try.prog 6 #[.slice (some ⟨g, 0, none⟩) (R + 1) c] w (NL w R f) := by
  have HR : Hid (RD w g 0 (R + 1) f) := hR
  clear hR
  have z : ((R : Int) + 1 == 0) = false := by rw [beq_eq_false_iff_ne]; omega
  have wk : IntKind.i64.wrap (R : Int) = (R : Int) := i64_id (by omega)
  go_enter Try.func6, Try.ntmps6
  go_wp2_with fail
  go_region_with (first
    | (go_at_call 12; (with_reducible refine (t12 _ _ _ _ _ _ (rd_drew HR) (by omega) (by omega)).mono ?_); rintro e w1 ⟨gp, cp, rfl, HC, HU⟩)
    | (go_at_call 12; (with_reducible refine (t12 _ _ _ _ _ _ (rd_room HR HM) (by omega) (by omega)).mono ?_); rintro e w1 ⟨gp, cp, rfl, HC, HU⟩)
    | ((with_reducible refine upon_room (by omega) ?_); intro gr w2 HM))
  · go_wp2
    go_ret2
    have hu : Up w w1 := (Up.drew _).trans HU.out
    obtain ⟨k1, k2, k3, k4⟩ := HC.out
    obtain ⟨m1, m2, m3⟩ := HM.out
    have k5 : w.heap.size ≤ gp := k3
    have k6 := m3.size
    have k7 := hu.size
    exact ⟨_, gp, cp, gr, rfl, LN.new (k1.up m3) k2 (by omega) m2 (by omega) (by omega) (by omega) (by omega), (hu.trans m3).trans (Up.alloc _ _)⟩
  · go_wp2
    go_ret2
    have hu : Up w w2 := (Up.drew _).trans HM.out.2.2
    obtain ⟨k1, k2, k3, k4⟩ := HC.out
    obtain ⟨m1, m2, m3⟩ := HM.out
    have l1 : gr < w2.heap.size := (World.ownsRow.lt m2 _ rfl).2
    have k6 := HU.out.size
    have k7 := hu.size
    have m4 : w.heap.size = gr := m1
    exact ⟨_, gp, cp, gr, rfl, LN.new k1 k2 (by omega) (owns_up m2 HU.out) (by omega) (by omega) (by omega) (by omega), (hu.trans HU.out).trans (Up.alloc _ _)⟩
end Go.Proofs.Ytdpogojhpfejjaa

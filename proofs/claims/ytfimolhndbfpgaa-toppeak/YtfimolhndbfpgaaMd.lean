/- Streams. -/
import Derived.Test.YtfimolhndbfpgaaMc
namespace Go.Proofs.Ytfimolhndbfpgaa
open Go.ChangeShapes Go.WideShapes Go.ChangeAt Go.RowKit Go.Fl Ieee
attribute [local go_sem] run_store_float run_store_c isSome_set call29 call28 run_neg fold_eq fold_ne fold_lt fold_gt abs_eq

theorem eql_nil (a : Option Addr) (l c : Nat) (w : World) : (binOp .eql 27 (.slice a l c) (.slice none 0 0)).run Try.prog w = .ok (.bool a.isNone) w := by
  have h := run_equal_slice_nil (P := Try.prog) w 27 28 a l c Try.underlying27
  simp [binOp, h]
attribute [local go_sem] eql_nil
theorem own_empty (w : World) : (w.alloc (.cells #[] 28)).ownsRow w.heap.size 28 1 (.slice (some ⟨w.heap.size, 0, none⟩) 0 0) 0 [] :=
  ⟨by simp, .inr ⟨w.heap.size, 0, #[], rfl, Nat.le_refl _, heap_alloc_last _ _, Nat.le_refl _, Nat.zero_le _, rfl, rfl⟩⟩
/-- What Clone leaves: a row of one's own, of the same numbers. -/
def CL (w : World) (n : Nat) (d : List (Nat × Nat)) (e : Ending) (w' : World) : Prop := ∃ g cap, e = .returned (.slice (some ⟨g, 0, none⟩) n cap) ∧ Hid (CRow w.heap.size w' (.slice (some ⟨g, 0, none⟩) n cap) d) ∧ Hid (Up w w')
theorem t36 (g o n c : Nat) (f : Nat → Nat × Nat) (w : World) (hR : RD w g o n f) (h1 : 1 ≤ n) (hn : n ≤ 100000) : Calls Try.prog 36 #[.slice (some ⟨g, o, none⟩) n c] w (CL w n (cut f 0 n)) := by
  obtain ⟨i0, hi, hz0, hz1, hz2⟩ := info_parts info26
  have HR : Hid (RD (w.alloc (.cells #[] 28)) g o n f) := hR.up (Up.alloc _ _)
  clear hR
  have hown : (w.alloc (.cells #[] 28)).ownsRow w.heap.size 28 1 (.slice (some ⟨w.heap.size, 0, none⟩) 0 0) 0 [] := own_empty w
  go_enter Try.func36, Try.ntmps36
  go_wp2_with (at_builtin; refine wpList_append_own _ rfl _ _ 27 rfl w.heap.size 28 i0 (.complex .f64 0 0) 1 16 Try.underlying27 hi hz0 hz1 hz2 rfl (by decide) _ _ _ rfl hown ⟨g, o, none⟩ n c ((cut f 0 n).map ce) rfl (by simp [cut_len]) (src_ok (o := 0) HR.out (by omega)) ce_one (by unfold maxLen; omega) (by omega) (by simp) ?_)
  intro v' w1 hown' hgrow _
  have O : Hid (CRow w.heap.size w1 v' (cut f 0 n)) := by
    show w1.ownsRow _ _ _ _ _ _
    rw [cut_len]; simpa using hown'
  have U : Hid (Up w w1) := RowKit.Below.grown ((Below.refl _ _).alloc (Nat.le_refl _) _) hgrow (by simp) (fun k hk => by simp [Value.ownBlock] at hk; omega)
  clear hown' hgrow hown
  obtain ⟨p, cap, rfl, hp⟩ := own_form O.out
  rw [cut_len] at O hp
  obtain ⟨q, rfl⟩ := hp h1
  go_wp2
  go_ret
  refine ⟨q, cap, ?_, ?_, U⟩
  · show Ending.returned (.slice _ (cut f 0 n).length cap) = _
    rw [cut_len]
  · exact O
/-- A stream. -/
structure ST (b0 : Nat) (w : World) (b gp cp gr n : Nat) (P d : List (Nat × Nat)) (k : Nat) : Prop where
  lo : b0 ≤ b
  n1 : b ≠ gr
  n2 : gp ≠ gr
  n3 : b ≠ gp
  c0 : w.cell? ⟨b, 0, none⟩ = some (.slice (some ⟨gp, 0, none⟩) n cp)
  c1 : w.cell? ⟨b, 1, none⟩ = some (.slice (some ⟨gr, 0, none⟩) n n)
  c2 : w.cell? ⟨b, 2, none⟩ = some (.int .i64 k)
  fz : w.frozen? ⟨b, 2, none⟩ = false
  pul : CRow b0 w (.slice (some ⟨gp, 0, none⟩) n cp) P
  room : CRow b0 w (.slice (some ⟨gr, 0, none⟩) n n) d
theorem ST.new {b0 : Nat} {w : World} {gp cp gr n : Nat} {P d : List (Nat × Nat)} (hp : CRow b0 w (.slice (some ⟨gp, 0, none⟩) n cp) P) (hr : CRow b0 w (.slice (some ⟨gr, 0, none⟩) n n) d) (hne : gp ≠ gr) (hb : b0 ≤ w.heap.size) :
    ST b0 (w.alloc (.cells #[.slice (some ⟨gp, 0, none⟩) n cp, .slice (some ⟨gr, 0, none⟩) n n, .int .i64 0] 59)) w.heap.size gp cp gr n P d 0 := by
  have l1 : gp < w.heap.size := (World.ownsRow.lt hp _ rfl).2
  have l2 : gr < w.heap.size := (World.ownsRow.lt hr _ rfl).2
  have hh := heap_alloc_last w (.cells #[.slice (some ⟨gp, 0, none⟩) n cp, .slice (some ⟨gr, 0, none⟩) n n, .int .i64 0] 59)
  refine ⟨hb, by omega, hne, by omega, ?_, ?_, ?_, ?_, hp.up (Up.alloc _ _), hr.up (Up.alloc _ _)⟩
  · rw [cell_of_row _ _ _ _ _ _ hh]; rfl
  · rw [cell_of_row _ _ _ _ _ _ hh]; rfl
  · rw [cell_of_row _ _ _ _ _ _ hh]; rfl
  · exact World.frozen?_alloc_at _ _ _ _ rfl
def SN (w : World) (n : Nat) (P : List (Nat × Nat)) (e : Ending) (w' : World) : Prop := ∃ b gp cp gr, e = .returned (.tuple #[.pointer (some ⟨b, 0, none⟩), .int .i64 0]) ∧ Hid (ST w.heap.size w' b gp cp gr n P (List.replicate n (0, 0)) 0) ∧ Hid (Up w w')
theorem t13arg (pg : Option Addr) (pc : Nat) (w : World) : Calls Try.prog 13 #[.slice pg 0 pc] w fun e w' => e = .returned (.tuple #[.pointer none, .int .i64 2]) ∧ w' = w := by
  go_enter Try.func13, Try.ntmps13
  go_wp2
  go_ret2
  exact ⟨rfl, rfl⟩
theorem t13long (pg : Option Addr) (n pc : Nat) (w : World) (hn : 16384 < n) (hN : n < 4611686018427387904) : Calls Try.prog 13 #[.slice pg n pc] w fun e w' => e = .returned (.tuple #[.pointer none, .int .i64 3]) ∧ w' = w := by
  go_enter Try.func13, Try.ntmps13
  go_wp2
  go_ret2
  exact ⟨rfl, rfl⟩
theorem rd_drew {g o m : Nat} {f : Nat → Nat × Nat} {w : World} (HR : Hid (RD w g o m f)) : RD w.drew g o m f := HR.out.up (Up.drew _)
theorem rd_made {g o m n gr : Nat} {f : Nat → Nat × Nat} {w w2 : World} (HR : Hid (RD w g o m f)) (HM : Hid (Made n gr w.drew w2)) : RD w2 g o m f := HR.out.up ((Up.drew _).trans HM.out.2.2)
set_option maxHeartbeats 1000000 in
theorem t13 (g o n c : Nat) (f : Nat → Nat × Nat) (w : World) (hR : RD w g o n f) (h1 : 1 ≤ n) (hn : n ≤ 16384) : Calls Try.prog 13 #[.slice (some ⟨g, o, none⟩) n c] w (SN w n (cut f 0 n)) := by
  have HR : Hid (RD w g o n f) := hR
  clear hR
  go_enter Try.func13, Try.ntmps13
  go_wp2_with fail
  go_region_with (first
    | (go_at_call 36; (with_reducible refine (t36 _ _ _ _ _ _ (rd_drew HR) h1 (by omega)).mono ?_); rintro e w1 ⟨gp, cp, rfl, HC, HU⟩)
    | (go_at_call 36; (with_reducible refine (t36 _ _ _ _ _ _ (rd_made HR HM) h1 (by omega)).mono ?_); rintro e w1 ⟨gp, cp, rfl, HC, HU⟩)
    | ((with_reducible refine upon_make (by omega) ?_); intro gr w2 HM))
  · go_wp2
    go_ret2
    have hu : Up w w1 := (Up.drew _).trans HU.out
    have l1 : gp < w1.heap.size := (World.ownsRow.lt HC.out _ rfl).2
    have l2 := HM.out.1
    refine ⟨_, gp, cp, gr, rfl, ST.new (HC.out.up HM.out.2.2) (HM.out.2.1.down (by have := hu.size; omega)) (by omega) (hu.trans HM.out.2.2).size, (hu.trans HM.out.2.2).trans (Up.alloc _ _)⟩
  · go_wp2
    go_ret2
    have hu : Up w w2 := (Up.drew _).trans HM.out.2.2
    have l1 : gr < w2.heap.size := (World.ownsRow.lt HM.out.2.1 _ rfl).2
    have l2 : w2.heap.size ≤ gp := (World.ownsRow.lt HC.out _ rfl).1
    have l3 := HM.out.1
    refine ⟨_, gp, cp, gr, rfl, ST.new (HC.out.down hu.size) ((HM.out.2.1.up HU.out).down (by have := (Up.drew w).size; omega)) (by omega) (hu.trans HU.out).size, (hu.trans HU.out).trans (Up.alloc _ _)⟩
theorem t37nil (w : World) : Calls Try.prog 37 #[.pointer none] w fun e w' => e = .returned (.bool true) ∧ w' = w := by
  go_enter Try.func37, Try.ntmps37
  go_wp2
  go_ret
  exact ⟨rfl, rfl⟩
theorem t37 {b0 : Nat} {w : World} {b gp cp gr n : Nat} {P d : List (Nat × Nat)} {k : Nat} (h : ST b0 w b gp cp gr n P d k) (h1 : 1 ≤ n) (hn : n ≤ 16384) : Calls Try.prog 37 #[.pointer (some ⟨b, 0, none⟩)] w fun e w' => e = .returned (.bool false) ∧ w' = w := by
  have c0 := h.c0
  have z : ((n : Int) == 0) = false := by rw [beq_eq_false_iff_ne]; omega
  clear h
  go_enter Try.func37, Try.ntmps37
  go_wp2
  go_ret
  exact ⟨rfl, rfl⟩
theorem t14nil (p : Option Addr) (n c : Nat) (w : World) : Calls Try.prog 14 #[.pointer none, .slice p n c] w fun e w' => e = .returned (.slice none 0 0) ∧ w' = w := by
  go_enter Try.func14, Try.ntmps14
  go_wp2_with (go_at_call 37; (with_reducible refine (t37nil _).mono ?_); rintro e w' ⟨rfl, rfl⟩)
  go_ret
  exact ⟨rfl, rfl⟩
theorem t15nil (w : World) : Calls Try.prog 15 #[.pointer none] w fun e w' => e = .returned (.slice none 0 0) ∧ w' = w := by
  go_enter Try.func15, Try.ntmps15
  go_wp2_with (go_at_call 37; (with_reducible refine (t37nil _).mono ?_); rintro e w' ⟨rfl, rfl⟩)
  go_ret
  exact ⟨rfl, rfl⟩
end Go.Proofs.Ytfimolhndbfpgaa

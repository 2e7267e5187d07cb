/- Solve. -/
import Derived.Test.YthpoipajfkfdeabCg
namespace Go.Proofs.Ythpoipajfkfdeab
open Go.ChangeShapes Go.WideShapes Go.ChangeAt Go.RowKit Go.Fl Ieee
attribute [local go_sem] run_store_float run_store_c call43 call17 run_neg fold_eq fold_ne fold_lt fold_gt abs_eq

theorem t4x_one {w : World} {pb : Option Addr} {n cb : Nat} {fb : Nat → Nat × Nat} (h : RowV w pb n fb) (hc : n ≤ cb) : TR (w.alloc (.cells #[.slice pb n cb] 22)) (some ⟨w.heap.size, 0, none⟩) 1 (fun _ => n) (fun _ => fb) := fun _ =>
  ⟨w.heap.size, 0, rfl, fun i hi => by
    obtain rfl : i = 0 := by omega
    exact ⟨pb, cb, World.cell?_alloc_at _ _ _ _ rfl, hc, h.up (Up.alloc _ _)⟩⟩
def finCN (x : CN) : Bool := decide (kindF x.1 x.2 = 0)
/-- What Solve leaves where it tells an error. -/
def SE (z : Int) (w : World) (e : Ending) (w' : World) : Prop := e = .returned (.tuple #[.slice none 0 0, .int .i64 z]) ∧ Hid (Up w w')
theorem fin_row (fb : Nat → Nat × Nat) (n : Nat) : finT (fun _ => n) (fun _ => fb) 1 = finR fb n := by
  unfold finT allN allN
  rw [Bool.true_and]
theorem t13r {w : World} {pb : Option Addr} {n cb : Nat} {fb : Nat → Nat × Nat} {b : Bool} (h : RowV w pb n fb) (hc : n ≤ cb) (hn : n ≤ 1000000) (hb : finR fb n = b) : Calls Try.prog 13 #[.slice (some ⟨w.heap.size, 0, none⟩) 1 1] (w.alloc (.cells #[.slice pb n cb] 22)) (BR b (w.alloc (.cells #[.slice pb n cb] 22))) := by
  have := t13 (c := 1) (t4x_one h hc) (by omega) (fun i hi => hn)
  rw [fin_row, hb] at this
  exact this
theorem t13k {w : World} {p : Option Addr} {n c : Nat} {L : Nat → Nat} {f : Nat → Nat → Nat × Nat} {b : Bool} (h : TR w p n L f) (hn : n ≤ 64) (hm : longB L n n = true) (hb : finT L f n = b) : Calls Try.prog 13 #[.slice p n c] w (BR b w) := by
  rw [← hb]
  refine t13 h (by omega) (fun i hi => ?_)
  have := (allN_iff n).1 hm i hi
  have : L i = n := of_decide_eq_true this
  omega
theorem t12k {w : World} {p : Option Addr} {n c : Nat} {L : Nat → Nat} {f : Nat → Nat → Nat × Nat} {m : Nat} {b : Bool} (h : TR w p n L f) (hn : n ≤ 1000000) (hb : longB L m n = b) : Calls Try.prog 12 #[.slice p n c, .int .i64 m] w (BR b w) := by
  rw [← hb]; exact t12 m h hn
set_option maxHeartbeats 2000000 in
set_option maxRecDepth 20000 in
theorem t4a {w : World} {p pb : Option Addr} {n c cb : Nat} {L : Nat → Nat} {f : Nat → Nat → Nat × Nat} (h : TR w p n L f) (hn : n ≤ 1000000) (h1 : longB L n n = false) : Calls Try.prog 4 #[.slice p n c, .slice pb n cb] w (SE 5 w) := by
  have T12 : Hid (Calls Try.prog 12 #[.slice p n c, .int .i64 n] w (BR false w)) := t12k h hn h1
  clear h h1
  go_enter Try.func4, Try.ntmps4
  go_wp2_with (go_at_call 12; (with_reducible refine T12.out.mono ?_); rintro e w1 ⟨rfl, hw⟩; subst w1)
  go_ret2
  exact ⟨rfl, Up.refl _⟩
set_option maxHeartbeats 2000000 in
set_option maxRecDepth 20000 in
theorem t4b {w : World} {p pb : Option Addr} {n c cb : Nat} {L : Nat → Nat} {f : Nat → Nat → Nat × Nat} (h : TR w p n L f) (hn : n ≤ 1000000) (h1 : longB L n n = true) (h2 : 64 < n) : Calls Try.prog 4 #[.slice p n c, .slice pb n cb] w (SE 3 w) := by
  have T12 : Hid (Calls Try.prog 12 #[.slice p n c, .int .i64 n] w (BR true w)) := t12k h hn h1
  have z1 : 64 < (n : Int) := by omega
  clear h h1
  go_enter Try.func4, Try.ntmps4
  go_wp2_with (go_at_call 12; (with_reducible refine T12.out.mono ?_); rintro e w1 ⟨rfl, hw⟩; subst w1)
  go_ret2
  exact ⟨rfl, Up.refl _⟩
set_option maxHeartbeats 2000000 in
set_option maxRecDepth 20000 in
theorem t4c {w : World} {p pb : Option Addr} {n c cb : Nat} {L : Nat → Nat} {f : Nat → Nat → Nat × Nat} (h : TR w p n L f) (hn : n ≤ 64) (h1 : longB L n n = true) (h2 : finT L f n = false) : Calls Try.prog 4 #[.slice p n c, .slice pb n cb] w (SE 6 w) := by
  have T12 : Hid (Calls Try.prog 12 #[.slice p n c, .int .i64 n] w (BR true w)) := t12k h (by omega) h1
  have T13 : Hid (Calls Try.prog 13 #[.slice p n c] w (BR false w)) := t13k h hn h1 h2
  have z1 : (n : Int) ≤ 64 := by omega
  clear h h1 h2
  go_enter Try.func4, Try.ntmps4
  go_wp2_with (first | (go_at_call 12; (with_reducible refine T12.out.mono ?_); rintro e w1 ⟨rfl, hw⟩; subst w1) | (go_at_call 13; (with_reducible refine T13.out.mono ?_); rintro e w1 ⟨rfl, hw⟩; subst w1))
  go_ret2
  exact ⟨rfl, Up.refl _⟩
set_option maxHeartbeats 2000000 in
set_option maxRecDepth 20000 in
theorem t4d {w : World} {p pb : Option Addr} {n c cb : Nat} {L : Nat → Nat} {f : Nat → Nat → Nat × Nat} {fb : Nat → Nat × Nat} (h : TR w p n L f) (hb : RowV w pb n fb) (hc : n ≤ cb) (hn : n ≤ 64) (h1 : longB L n n = true) (h2 : finT L f n = true) (h3 : finR fb n = false) : Calls Try.prog 4 #[.slice p n c, .slice pb n cb] w (SE 6 w) := by
  have T12 : Hid (Calls Try.prog 12 #[.slice p n c, .int .i64 n] w (BR true w)) := t12k h (by omega) h1
  have T13 : Hid (Calls Try.prog 13 #[.slice p n c] w (BR true w)) := t13k h hn h1 h2
  have z1 : (n : Int) ≤ 64 := by omega
  have T13r : Hid (Calls Try.prog 13 #[.slice (some ⟨w.heap.size, 0, none⟩) 1 1] (w.alloc (.cells #[.slice pb n cb] 22)) (BR false (w.alloc (.cells #[.slice pb n cb] 22)))) := t13r hb hc (by omega) h3
  clear h hb hc h1 h2 h3
  go_enter Try.func4, Try.ntmps4
  go_wp2_with (first | (go_at_call 12; (with_reducible refine T12.out.mono ?_); rintro e w1 ⟨rfl, hw⟩; subst w1) | (go_at_call 13; (with_reducible refine T13.out.mono ?_); rintro e w1 ⟨rfl, hw⟩; subst w1) | (go_at_call 13; (with_reducible refine T13r.out.mono ?_); rintro e w1 ⟨rfl, hw⟩; subst w1))
  go_ret2
  exact ⟨rfl, Up.alloc _ _⟩
theorem el_k {w0 w : World} {A B n m : Nat} {T : Nat → Nat → CN} {b : Bool} (h : Calls Try.prog 15 #[.slice (some ⟨A, 0, none⟩) n n] w (ElR w0 A B n m T)) (hb : solB T n m = b) : Calls Try.prog 15 #[.slice (some ⟨A, 0, none⟩) n n] w fun e w' => e = .returned (.bool b) ∧ Hid (∃ σ T', EQ w0 w' A B n m σ T' ∧ (b = true → T' = elT T n m n)) := by
  refine h.mono fun e w' ⟨h1, h2⟩ => ⟨by rw [h1, hb], ?_⟩
  rw [hb] at h2
  exact h2
set_option maxHeartbeats 2000000 in
set_option maxRecDepth 20000 in
theorem t4e {w : World} {p pb : Option Addr} {n c cb : Nat} {L : Nat → Nat} {f : Nat → Nat → Nat × Nat} {fb : Nat → Nat × Nat} (h : TR w p n L f) (hb : RowV w pb n fb) (hc : n ≤ cb) (hn : n ≤ 64) (h1 : longB L n n = true) (h2 : finT L f n = true) (h3 : finR fb n = true) (h4 : solB (joT f fb n n) n (n + 1) = false) : Calls Try.prog 4 #[.slice p n c, .slice pb n cb] w (SE 210 w) := by
  have T12 : Hid (Calls Try.prog 12 #[.slice p n c, .int .i64 n] w (BR true w)) := t12k h (by omega) h1
  have T13 : Hid (Calls Try.prog 13 #[.slice p n c] w (BR true w)) := t13k h hn h1 h2
  have z1 : (n : Int) ≤ 64 := by omega
  have T13r : Hid (Calls Try.prog 13 #[.slice (some ⟨w.heap.size, 0, none⟩) 1 1] (w.alloc (.cells #[.slice pb n cb] 22)) (BR true (w.alloc (.cells #[.slice pb n cb] 22)))) := t13r hb hc (by omega) h3
  have HL : ∀ i, i < n → L i = n := fun i hi => of_decide_eq_true ((allN_iff n).1 h1 i hi)
  have T14 : Hid (Calls Try.prog 14 #[.slice p n c, .slice pb n cb] (w.alloc (.cells #[.slice pb n cb] 22)) (JoR n (joT f fb n n) (w.alloc (.cells #[.slice pb n cb] 22)))) := t14 (h.up (Up.alloc _ _)) (hb.up (Up.alloc _ _)) HL hn
  have HN : Hid (n ≤ 64) := hn
  clear h hb hc h1 h2 h3 HL hn
  have HSol : Hid (solB (joT f fb n n) n (n + 1) = false) := h4
  clear h4
  go_enter Try.func4, Try.ntmps4
  go_wp2_with (first | (go_at_call 12; (with_reducible refine T12.out.mono ?_); rintro e w1 ⟨rfl, hw⟩; subst w1) | (go_at_call 13; (with_reducible refine T13.out.mono ?_); rintro e w1 ⟨rfl, hw⟩; subst w1) | (go_at_call 13; (with_reducible refine T13r.out.mono ?_); rintro e w1 ⟨rfl, hw⟩; subst w1) | (go_at_call 14; (with_reducible refine T14.out.mono ?_); rintro e w2 ⟨A, B, rfl, HE⟩; (have T15 : Hid (Calls Try.prog 15 #[.slice (some ⟨A, 0, none⟩) n n] w2 (ElR (w.alloc (.cells #[.slice pb n cb] 22)) A B n (n + 1) (joT f fb n n))) := t15 HE.out (by omega) (by have := HN.out; omega)); (have U2 : Hid (Up w w2) := (Up.alloc _ _).trans HE.out.up)) | (go_at_call 15; (with_reducible refine (el_k T15.out HSol.out).mono ?_); rintro e w3 ⟨rfl, HR⟩))
  go_ret2
  obtain ⟨σ, T', h5, -⟩ := HR.out
  exact ⟨rfl, (Up.alloc _ _).trans h5.up⟩
/-- What Solve tells of equations that it solves. -/
def xS (f : Nat → Nat → Nat × Nat) (fb : Nat → Nat × Nat) (n : Nat) : Nat → CN := bx (elT (joT f fb n n) n (n + 1) n) n n
def SOk (n : Nat) (x : Nat → CN) (w : World) (e : Ending) (w' : World) : Prop := ∃ g, e = .returned (.tuple #[.slice (some ⟨g, 0, none⟩) n n, .int .i64 0]) ∧ Hid (XR w.heap.size w' g n x) ∧ Hid (Up w w')
theorem XR.rowV {b : Nat} {w : World} {g n : Nat} {x : Nat → CN} (h : XR b w g n x) : ∃ d : List (Nat × Nat), RowV w (some ⟨g, 0, none⟩) n (fun j => d[j]!) ∧ ∀ j, j < n → ab2 d[j]! = x j := by
  obtain ⟨d, hd, hx⟩ := h.row
  have := hd.len
  exact ⟨d, fun hn => ⟨g, 0, rfl, fun j hj => by rw [Nat.zero_add]; exact hd.cell (by omega)⟩, hx⟩
theorem XR.down {b b' : Nat} {w : World} {g n : Nat} {x : Nat → CN} (h : XR b w g n x) (hb : b' ≤ b) : XR b' w g n x := by
  obtain ⟨d, hd, hx⟩ := h.row
  exact ⟨⟨d, hd.down hb, hx⟩, Nat.le_trans hb h.lo⟩
theorem fin_x {d : List (Nat × Nat)} {x : Nat → CN} {n : Nat} (h : ∀ j, j < n → ab2 d[j]! = x j) : finR (fun j => d[j]!) n = allN (fun j => finCN (x j)) n := by
  unfold finR
  revert h
  induction n with
  | zero => intro _; rfl
  | succ k ih =>
    intro h
    unfold allN
    rw [ih fun j hj => h j (by omega), ← h k (by omega)]
    rfl
theorem t13x {b0 : Nat} {w : World} {g n : Nat} {x : Nat → CN} {b : Bool} (h : XR b0 w g n x) (hn : n ≤ 1000000) (hb : allN (fun j => finCN (x j)) n = b) : Calls Try.prog 13 #[.slice (some ⟨w.heap.size, 0, none⟩) 1 1] (w.alloc (.cells #[.slice (some ⟨g, 0, none⟩) n n] 22)) (BR b (w.alloc (.cells #[.slice (some ⟨g, 0, none⟩) n n] 22))) := by
  obtain ⟨d, h1, h2⟩ := h.rowV
  exact t13r h1 (Nat.le_refl _) hn ((fin_x h2).trans hb)
set_option maxHeartbeats 2000000 in
set_option maxRecDepth 20000 in
theorem t4f {w : World} {p pb : Option Addr} {n c cb : Nat} {L : Nat → Nat} {f : Nat → Nat → Nat × Nat} {fb : Nat → Nat × Nat} (h : TR w p n L f) (hb : RowV w pb n fb) (hc : n ≤ cb) (hn : n ≤ 64) (h1 : longB L n n = true) (h2 : finT L f n = true) (h3 : finR fb n = true) (h4 : solB (joT f fb n n) n (n + 1) = true) (h5 : allN (fun j => finCN (xS f fb n j)) n = false) : Calls Try.prog 4 #[.slice p n c, .slice pb n cb] w (SE 210 w) := by
  have T12 : Hid (Calls Try.prog 12 #[.slice p n c, .int .i64 n] w (BR true w)) := t12k h (by omega) h1
  have T13 : Hid (Calls Try.prog 13 #[.slice p n c] w (BR true w)) := t13k h hn h1 h2
  have z1 : (n : Int) ≤ 64 := by omega
  have T13r : Hid (Calls Try.prog 13 #[.slice (some ⟨w.heap.size, 0, none⟩) 1 1] (w.alloc (.cells #[.slice pb n cb] 22)) (BR true (w.alloc (.cells #[.slice pb n cb] 22)))) := t13r hb hc (by omega) h3
  have HL : ∀ i, i < n → L i = n := fun i hi => of_decide_eq_true ((allN_iff n).1 h1 i hi)
  have T14 : Hid (Calls Try.prog 14 #[.slice p n c, .slice pb n cb] (w.alloc (.cells #[.slice pb n cb] 22)) (JoR n (joT f fb n n) (w.alloc (.cells #[.slice pb n cb] 22)))) := t14 (h.up (Up.alloc _ _)) (hb.up (Up.alloc _ _)) HL hn
  have HN : Hid (n ≤ 64) := hn
  clear h hb hc h1 h2 h3 HL hn
  have HSol : Hid (solB (joT f fb n n) n (n + 1) = true) := h4
  have HF : Hid (allN (fun j => finCN (xS f fb n j)) n = false) := h5
  clear h4 h5
  go_enter Try.func4, Try.ntmps4
  go_upto_region 11 with (first | (go_at_call 12; (with_reducible refine T12.out.mono ?_); rintro e w1 ⟨rfl, hw⟩; subst w1) | (go_at_call 13; (with_reducible refine T13.out.mono ?_); rintro e w1 ⟨rfl, hw⟩; subst w1) | (go_at_call 13; (with_reducible refine T13r.out.mono ?_); rintro e w1 ⟨rfl, hw⟩; subst w1) | (go_at_call 14; (with_reducible refine T14.out.mono ?_); rintro e w2 ⟨A, B, rfl, HE⟩; (have T15 : Hid (Calls Try.prog 15 #[.slice (some ⟨A, 0, none⟩) n n] w2 (ElR (w.alloc (.cells #[.slice pb n cb] 22)) A B n (n + 1) (joT f fb n n))) := t15 HE.out (by omega) (by have := HN.out; omega)); (have U2 : Hid (Up w w2) := (Up.alloc _ _).trans HE.out.up)) | (go_at_call 15; (with_reducible refine (el_k T15.out HSol.out).mono ?_); rintro e w3 ⟨rfl, HR⟩))
  obtain ⟨σ, T', h6, h7⟩ := HR.out
  rw [h7 trivial] at h6
  have T16 : Hid (Calls Try.prog 16 #[.slice (some ⟨A, 0, none⟩) n n] w3 (XlR n (xS f fb n) w3)) := t16 h6 rfl (by have := HN.out; omega)
  have U3 : Hid (Up w w3) := (Up.alloc _ _).trans h6.up
  clear h6 h7 HR HE T15 T14 T13 T12 T13r
  go_wp2_with (first | (go_at_call 16; (with_reducible refine T16.out.mono ?_); rintro e w4 ⟨g, rfl, HX, U4⟩; (have T13x : Hid (Calls Try.prog 13 #[.slice (some ⟨w4.heap.size, 0, none⟩) 1 1] (w4.alloc (.cells #[.slice (some ⟨g, 0, none⟩) n n] 22)) (BR false (w4.alloc (.cells #[.slice (some ⟨g, 0, none⟩) n n] 22)))) := t13x HX.out (by have := HN.out; omega) HF.out)) | (go_at_call 13; (with_reducible refine T13x.out.mono ?_); rintro e w1 ⟨rfl, hw⟩; subst w1))
  go_ret2
  exact ⟨rfl, U3.out.trans (U4.out.trans (Up.alloc _ _))⟩
set_option maxHeartbeats 2000000 in
set_option maxRecDepth 20000 in
theorem t4g {w : World} {p pb : Option Addr} {n c cb : Nat} {L : Nat → Nat} {f : Nat → Nat → Nat × Nat} {fb : Nat → Nat × Nat} (h : TR w p n L f) (hb : RowV w pb n fb) (hc : n ≤ cb) (hn : n ≤ 64) (h1 : longB L n n = true) (h2 : finT L f n = true) (h3 : finR fb n = true) (h4 : solB (joT f fb n n) n (n + 1) = true) (h5 : allN (fun j => finCN (xS f fb n j)) n = true) : Calls Try.prog 4 #[.slice p n c, .slice pb n cb] w (SOk n (xS f fb n) w) := by
  have T12 : Hid (Calls Try.prog 12 #[.slice p n c, .int .i64 n] w (BR true w)) := t12k h (by omega) h1
  have T13 : Hid (Calls Try.prog 13 #[.slice p n c] w (BR true w)) := t13k h hn h1 h2
  have z1 : (n : Int) ≤ 64 := by omega
  have T13r : Hid (Calls Try.prog 13 #[.slice (some ⟨w.heap.size, 0, none⟩) 1 1] (w.alloc (.cells #[.slice pb n cb] 22)) (BR true (w.alloc (.cells #[.slice pb n cb] 22)))) := t13r hb hc (by omega) h3
  have HL : ∀ i, i < n → L i = n := fun i hi => of_decide_eq_true ((allN_iff n).1 h1 i hi)
  have T14 : Hid (Calls Try.prog 14 #[.slice p n c, .slice pb n cb] (w.alloc (.cells #[.slice pb n cb] 22)) (JoR n (joT f fb n n) (w.alloc (.cells #[.slice pb n cb] 22)))) := t14 (h.up (Up.alloc _ _)) (hb.up (Up.alloc _ _)) HL hn
  have HN : Hid (n ≤ 64) := hn
  clear h hb hc h1 h2 h3 HL hn
  have HSol : Hid (solB (joT f fb n n) n (n + 1) = true) := h4
  have HF : Hid (allN (fun j => finCN (xS f fb n j)) n = true) := h5
  clear h4 h5
  go_enter Try.func4, Try.ntmps4
  go_upto_region 11 with (first | (go_at_call 12; (with_reducible refine T12.out.mono ?_); rintro e w1 ⟨rfl, hw⟩; subst w1) | (go_at_call 13; (with_reducible refine T13.out.mono ?_); rintro e w1 ⟨rfl, hw⟩; subst w1) | (go_at_call 13; (with_reducible refine T13r.out.mono ?_); rintro e w1 ⟨rfl, hw⟩; subst w1) | (go_at_call 14; (with_reducible refine T14.out.mono ?_); rintro e w2 ⟨A, B, rfl, HE⟩; (have T15 : Hid (Calls Try.prog 15 #[.slice (some ⟨A, 0, none⟩) n n] w2 (ElR (w.alloc (.cells #[.slice pb n cb] 22)) A B n (n + 1) (joT f fb n n))) := t15 HE.out (by omega) (by have := HN.out; omega)); (have U2 : Hid (Up w w2) := (Up.alloc _ _).trans HE.out.up)) | (go_at_call 15; (with_reducible refine (el_k T15.out HSol.out).mono ?_); rintro e w3 ⟨rfl, HR⟩))
  obtain ⟨σ, T', h6, h7⟩ := HR.out
  rw [h7 trivial] at h6
  have T16 : Hid (Calls Try.prog 16 #[.slice (some ⟨A, 0, none⟩) n n] w3 (XlR n (xS f fb n) w3)) := t16 h6 rfl (by have := HN.out; omega)
  have U3 : Hid (Up w w3) := (Up.alloc _ _).trans h6.up
  clear h6 h7 HR HE T15 T14 T13 T12 T13r
  go_wp2_with (first | (go_at_call 16; (with_reducible refine T16.out.mono ?_); rintro e w4 ⟨g, rfl, HX, U4⟩; (have T13x : Hid (Calls Try.prog 13 #[.slice (some ⟨w4.heap.size, 0, none⟩) 1 1] (w4.alloc (.cells #[.slice (some ⟨g, 0, none⟩) n n] 22)) (BR true (w4.alloc (.cells #[.slice (some ⟨g, 0, none⟩) n n] 22)))) := t13x HX.out (by have := HN.out; omega) HF.out)) | (go_at_call 13; (with_reducible refine T13x.out.mono ?_); rintro e w1 ⟨rfl, hw⟩; subst w1))
  go_ret2
  exact ⟨g, rfl, (HX.out.up (Up.alloc _ _)).down (RowKit.Below.size U3.out), U3.out.trans (U4.out.trans (Up.alloc _ _))⟩
end Go.Proofs.Ythpoipajfkfdeab

/- A step that asks for a Row. -/
import Derived.Test.YtcocliilapeelaaW
namespace Go.Proofs.Ytcocliilapeelaa
open Go.ChangeShapes Go.WideShapes Go.ChangeAt Go.RowKit Go.Fl Ieee
attribute [local go_sem] run_store_float run_store_complex call38 call37 run_neg fold_eq fold_ne fold_lt fold_gt abs_eq

theorem ST.over {w W W' : World} {a x g : Nat} {s r K N S : Int} {X : Nat} (h : ST w W a x s r K N S X) (k : But g W W') (hg : w.heap.size < g) : ST w W' a x s r K N S X :=
  ⟨h.two.over k (by omega), h.sa.but k (by have := h.la; omega), h.sx.but k (by have := h.lx; omega), h.ne, h.la, h.lx, (k.block _ h.glt (fun e => by cases e; omega)).trans h.row⟩
/-- .. and the row that the program told. -/
structure SR (w W : World) (a x : Nat) (s r K N S : Int) (X : Nat) (v : Value) (n : Nat) : Prop where
  st : ST w W a x s r K N S X
  row : ∃ d : List (Nat × Nat), d.length = n ∧ CRow (w.heap.size + 1) W v d
theorem SR.stored {w W : World} {a x : Nat} {s r K N S : Int} {X g n cap : Nat} (h : SR w W a x s r K N S X (.slice (some ⟨g, 0, none⟩) n cap) n) (j u y : Nat) : SR w (W.setCell ⟨g, j, none⟩ (.complex .f64 u y)) a x s r K N S X (.slice (some ⟨g, 0, none⟩) n cap) n := by
  obtain ⟨d, rfl, ha⟩ := h.row
  obtain ⟨s1, s2⟩ := World.ownsRow.stored ha j (.complex .f64 u y)
  have hg := (World.ownsRow.lt ha g rfl).1
  refine ⟨h.st.over s2 (by omega), d.set j (u, y), by simp, ?_⟩
  unfold CRow
  rw [List.length_set, List.map_set]
  exact s1
theorem SR.cell {w W : World} {a x : Nat} {s r K N S : Int} {X g n cap : Nat} (h : SR w W a x s r K N S X (.slice (some ⟨g, 0, none⟩) n cap) n) {i : Nat} (hi : i < n) : (∃ x y, W.cell? ⟨g, i, none⟩ = some (.complex .f64 x y)) ∧ W.frozen? ⟨g, i, none⟩ = false := by
  obtain ⟨d, rfl, ha⟩ := h.row
  exact ⟨⟨_, _, ha.cell hi⟩, World.ownsRow.frozenAt ha i⟩
theorem SR.form {w W : World} {a x : Nat} {s r K N S : Int} {X n : Nat} {v : Value} (h : SR w W a x s r K N S X v n) : ∃ p cap, v = .slice p n cap ∧ (0 < n → ∃ g, p = some ⟨g, 0, none⟩) := by
  obtain ⟨d, rfl, ha⟩ := h.row
  exact own_form ha
/-- The rows as they stand ahead of being held against each other. -/
structure S3 (w W : World) (a x : Nat) (s r K N S : Int) (X : Nat) (v v1 v2 : Value) (d d2 : List (Nat × Nat)) : Prop where
  st : ST w W a x s r K N S X
  r0 : CRow (w.heap.size + 1) W v d
  r1 : ∃ b, SRow b W v1 d
  r2 : ∃ b, SRow b W v2 d2
theorem row_kept {W W' : World} {b t m n x : Nat} {v : Value} {xs : List Value} (h : W.ownsRow b t m v n xs) (hb : But x W W') (hx : x < b) : W'.ownsRow b t m v n xs := by
  refine World.ownsRow.kept h hb ?_
  rcases hv : v.ownBlock with _ | j
  · exact Or.inl rfl
  · right
    intro e
    have := (h.lt j hv).1
    cases e
    omega
theorem CRow.drew {b : Nat} {w : World} {v : Value} {d : List (Nat × Nat)} (h : CRow b w v d) : CRow b w.drew v d := h.up (Up.drewN w 1)
theorem len_rows {d : List (Nat × Nat)} {s : Int} {X n : Nat} (h : d.map ab2 = rowF s X n) : d.length = n := by
  have := congrArg List.length h
  simpa [rowF] using this
set_option maxHeartbeats 2000000 in
theorem s4a {w : World} {a x : Nat} {s : Int} (ha : SC w a s) (hx : SC w x s) (ne : a ≠ x) (n : Nat) (S : Int) (X : Nat) (hn : n ≤ 16384) : Calls Try.prog 10 #[.pointer (some ⟨a, 0, none⟩), .pointer (some ⟨x, 0, none⟩), .agg #[.int .i64 4, .int .i64 n, .int .u64 S, .float .f64 X]] w (SD w a x) := by
  have H := ST.new ha hx ne 4 n S X
  obtain ⟨c0, c1, c2, c3⟩ := H.cells
  have HS : Hid (ST w (w.alloc (.cells #[.int .i64 4, .int .i64 n, .int .u64 S, .float .f64 X] 30)) a x s s 4 n S X) := H
  have ga : w.heap.size ≠ a := Nat.ne_of_gt H.la
  have gx : w.heap.size ≠ x := Nat.ne_of_gt H.lx
  have LX : Hid (x < w.heap.size) := H.lx
  have SZ : Hid ((w.alloc (.cells #[.int .i64 4, .int .i64 n, .int .u64 S, .float .f64 X] 30)).heap.size = w.heap.size + 1) := by simp [Hid]
  clear ha hx H ne
  go_enter Try.func10, Try.ntmps10
  go_wp2_with (go_at_call 16; (with_reducible refine (t16 HS.out.sa n X hn).mono ?_); rintro e w1 ⟨v, d, rfl, r0, h1, hb1, hd⟩; have H1 : Hid (ST w w1 a x (it s (24 * n)) s 4 n S X) := HS.out.a h1.out hb1.out; have R0 : Hid (CRow (w.heap.size + 1) w1 v d) := (by have e := r0.out; rw [SZ.out] at e; exact e); clear r0 HS h1 hb1 c0 c1 c2 c3; obtain ⟨c0, c1, c2, c3⟩ := H1.out.cells)
  have LN : Hid (d.length = n) := len_rows hd.out
  obtain ⟨p, cap, hv, hp⟩ := own_form R0.out
  rw [LN.out] at hv hp
  subst hv
  have HP : Hid (0 < n → ∃ g, p = some ⟨g, 0, none⟩) := hp
  clear hp
  generalize eg : w.heap.size = g at *
  go_region_held3 (fun w' => w'.cell? ⟨g, 1, none⟩ = some (.int .i64 n) ∧ w'.cell? ⟨g, 3, none⟩ = some (.float .f64 X))
    (first
      | go_keep
      | (go_split_ands; refine ⟨cell_up ?_ u2.out, cell_up ?_ u2.out⟩ <;> assumption)
      | (go_split_ands; refine ⟨hb3.out.cell gx ?_, hb3.out.cell gx ?_⟩ <;> assumption)
      | (go_split_ands; refine ⟨cell_up ?_ u4.out, cell_up ?_ u4.out⟩ <;> assumption))
    (first
      | (go_at_call 31; (with_reducible refine (t31 R0.out.drew (by rw [LN.out]; omega)).mono ?_); rintro e w2 ⟨v1, rfl, r1, u2⟩; have H2 : Hid (ST w w2 a x (it s (24 * n)) s 4 n S X) := H1.out.drew.up u2.out; have R2 : Hid (CRow (g + 1) w2 (.slice p n cap) d) := R0.out.drew.up u2.out)
      | (go_at_call 32; (with_reducible refine (t32 (w := w2) H2.out.sx n X hn).mono ?_); rintro e w3 ⟨v2, d2, rfl, r2, h3, hb3, hd2⟩; have H3 : Hid (ST w w3 a x (it s (24 * n)) (it s (24 * n)) 4 n S X) := H2.out.x h3.out hb3.out; have R3 : Hid (CRow (g + 1) w3 (.slice p n cap) d) := row_kept R2.out hb3.out (by have := LX.out; omega); have Q3 : Hid (SRow w1.drew.heap.size w3 v1 d) := row_kept r1.out hb3.out H1.out.drew.sx.lt)
      | (go_at_call 30; (with_reducible refine (t30 Q3.out r2.out (hd.out.trans hd2.out.symm) (by rw [LN.out]; omega)).mono ?_); rintro e w4 ⟨rfl, u4⟩; have H4 : Hid (SR w w4 a x (it s (24 * n)) (it s (24 * n)) 4 n S X (.slice p n cap) n) := ⟨H3.out.up u4.out, d, LN.out, by rw [eg]; exact R3.out.up u4.out⟩))
  all_goals (try go_wp2)
  all_goals
    clear H1 R0 H2 R2 H3 R3 Q3 r1 r2 u2 u4 h3 hb3 hd hd2 LN
    go_loopw [9, 64] (fun _ i wr => ∃ k : Nat, k ≤ n ∧ i = .int .i64 k ∧ Hid (SR w wr a x (it s (24 * n)) (it s (24 * n)) 4 n S X (.slice p n cap) n)) (fun _ i _ => n - (intOf i).toNat)
    case atStart => exact ⟨0, by omega, rfl, H4⟩
    case round =>
      clear H4
      obtain ⟨k, hk, rfl, HT⟩ := hrel
      by_cases hlt : k < n
      · obtain ⟨gr, hg⟩ := HP.out (by omega)
        subst hg
        obtain ⟨⟨x5, y5, hc⟩, hf⟩ := HT.out.cell hlt
        have hkz : (k : Int) < (n : Int) := by omega
        go_wp2
        go_roundw
        case rel => exact ⟨k + 1, by omega, by go_num, HT.out.stored _ _ _⟩
        case measure => simp [intOf]; omega
      · obtain rfl : n = k := by omega
        go_wp2
        go_ret
        exact HT.out.st.done
end Go.Proofs.Ytcocliilapeelaa

/- Scene: what adds echoes is made; rows are cut; noise is added. -/
import Derived.Test.YtgalgnopjcpocaaCd
import Derived.Test.YtgalgnopjcpocaaP
import Derived.BigQuiet
namespace Go.Proofs.Ytgalgnopjcpocaa
open Go.ChangeShapes Go.WideShapes Go.ChangeAt Go.RowKit Go.Fl Ieee
attribute [local go_sem] run_store_float run_store_c isSome_set call20 call33 run_neg fold_eq fold_ne fold_lt fold_gt abs_eq

/-- What adder leaves. -/
def AM (w : World) (B : Nat) (b : Bt) (pg po n pc tm N : Nat) (fp : Nat → Nat × Nat) (e : Ending) (w' : World) : Prop :=
  ∃ b1 b2 b3 b4, e = .returned (.func (.func 56) #[] #[.pointer (some ⟨b1, 0, none⟩), .pointer (some ⟨b2, 0, none⟩), .pointer (some ⟨b3, 0, none⟩), .pointer (some ⟨b4, 0, none⟩)]) ∧ Hid (AX w' B b1 b2 b3 b4 b pg po n pc tm N fp) ∧ Hid (Up w w')
set_option maxRecDepth 20000 in
theorem t39 {w : World} {B c v r E R pg po n pc tm N : Nat} {fp : Nat → Nat × Nat} (hR : RD w pg po n fp) (hp : pg ≠ B) (hB : B < w.heap.size) :
    Calls Try.prog 39 #[.agg #[.float .f64 c, .float .f64 v, .float .f64 r, .int .i64 E, .int .i64 R], .slice (some ⟨pg, po, none⟩) n pc, .float .f64 tm, .slice (some ⟨B, 0, none⟩) N N] w (AM w B ⟨c, v, r, E, R⟩ pg po n pc tm N fp) := by
  have HP : Hid (RD w pg po n fp ∧ pg ≠ B ∧ B < w.heap.size) := ⟨hR, hp, hB⟩
  clear hR hp hB
  go_enter Try.func39, Try.ntmps39
  go_wp2
  go_ret
  refine ⟨_, _, _, _, rfl, ?_, (((Up.alloc _ _).trans (Up.alloc _ _)).trans (Up.alloc _ _)).trans (Up.alloc _ _)⟩
  obtain ⟨h1, h2, h3⟩ := HP.out
  have s1 := size_one w (.cells #[.float .f64 c, .float .f64 v, .float .f64 r, .int .i64 E, .int .i64 R] 63)
  have s2 := size_one (w.alloc (.cells #[.float .f64 c, .float .f64 v, .float .f64 r, .int .i64 E, .int .i64 R] 63)) (.cells #[.slice (some ⟨pg, po, none⟩) n pc] 54)
  have s3 := size_one ((w.alloc (.cells #[.float .f64 c, .float .f64 v, .float .f64 r, .int .i64 E, .int .i64 R] 63)).alloc (.cells #[.slice (some ⟨pg, po, none⟩) n pc] 54)) (.cells #[.float .f64 tm] 26)
  have k2 := new_cell (w.alloc (.cells #[.float .f64 c, .float .f64 v, .float .f64 r, .int .i64 E, .int .i64 R] 63)) #[.slice (some ⟨pg, po, none⟩) n pc] 54 0 _ rfl
  have k3 := new_cell ((w.alloc (.cells #[.float .f64 c, .float .f64 v, .float .f64 r, .int .i64 E, .int .i64 R] 63)).alloc (.cells #[.slice (some ⟨pg, po, none⟩) n pc] 54)) #[.float .f64 tm] 26 0 _ rfl
  have k4 := new_cell (((w.alloc (.cells #[.float .f64 c, .float .f64 v, .float .f64 r, .int .i64 E, .int .i64 R] 63)).alloc (.cells #[.slice (some ⟨pg, po, none⟩) n pc] 54)).alloc (.cells #[.float .f64 tm] 26)) #[.slice (some ⟨B, 0, none⟩) N N] 54 0 _ rfl
  rw [s1] at k2 s2
  rw [s2] at k3 s3
  rw [s3] at k4
  exact ⟨(BC.new w c v r E R).up (((Up.alloc _ _).trans (Up.alloc _ _)).trans (Up.alloc _ _)), cell_up k3 (Up.alloc _ _), cell_up k2 ((Up.alloc _ _).trans (Up.alloc _ _)), k4, h1.up ((((Up.alloc _ _).trans (Up.alloc _ _)).trans (Up.alloc _ _)).trans (Up.alloc _ _)), by omega, by omega, by omega, by omega, h2⟩
/-- The rows' values, of which k are laid. -/
structure CK (w wr : World) (A B n m k : Nat) : Prop where
  lo : w.heap.size ≤ A
  ans : ∃ l, l.length = n ∧ wr.ownsRow w.heap.size 54 1 (.slice (some ⟨A, 0, none⟩) n n) n l ∧ ∀ i, i < k → l[i]? = some (.slice (some ⟨B, i * m, none⟩) m m)
  up : Up w wr
theorem CK.start {w w0 w1 : World} {A B n m : Nat} (h0 : Up w w0) (h : MadeS n A w0 w1) : CK w w1 A B n m 0 := by
  obtain ⟨e1, r1, u1⟩ := h
  have := h0.size
  exact ⟨by omega, ⟨_, by simp, owns_down r1 (by omega), fun i hi => by omega⟩, h0.trans u1⟩
theorem CK.put {w wr w2 : World} {A B n m k x : Nat} (h : CK w wr A B n m k) (hu : Up wr w2) (hk : k < n) (hx : k * m = x) : CK w (w2.setCell ⟨A, k, none⟩ (.slice (some ⟨B, x, none⟩) m m)) A B n m (k + 1) ∧ But A w2 (w2.setCell ⟨A, k, none⟩ (.slice (some ⟨B, x, none⟩) m m)) := by
  obtain ⟨l, hl, h1, h2⟩ := h.ans
  obtain ⟨s1, s2⟩ := World.ownsRow.stored (owns_up h1 hu) k (.slice (some ⟨B, x, none⟩) m m)
  refine ⟨⟨h.lo, ⟨_, by simpa using hl, s1, fun i hi => ?_⟩, But.up s2 (h.up.trans hu) h.lo⟩, s2⟩
  rw [List.getElem?_set]
  by_cases e : k = i
  · subst e; rw [if_pos rfl, if_pos (by omega), hx]
  · rw [if_neg e]; exact h2 i (by omega)
theorem CK.cell {w wr w2 : World} {A B n m k : Nat} (h : CK w wr A B n m k) (hu : Up wr w2) (i : Nat) (hi : i < n) : ∃ v, w2.cell? ⟨A, i, none⟩ = some v ∧ w2.frozen? ⟨A, i, none⟩ = false := by
  obtain ⟨l, hl, h1, h2⟩ := h.ans
  have h1 := owns_up h1 hu
  exact ⟨l[i]'(by omega), by rw [World.ownsRow.cellAt h1 i (by omega), List.getElem?_eq_getElem (by omega)], World.ownsRow.frozenAt h1 i⟩
theorem CK.done {w wr : World} {A B n m : Nat} (h : CK w wr A B n m n) : TB wr A n (fun i => some ⟨B, i * m, none⟩) (fun _ => m) (fun _ => m) := by
  obtain ⟨l, hl, h1, h2⟩ := h.ans
  exact fun i hi => by rw [World.ownsRow.cellAt h1 i (by omega)]; exact h2 i hi
def CT (w : World) (B n m : Nat) (e : Ending) (w' : World) : Prop := ∃ A, e = .returned (.slice (some ⟨A, 0, none⟩) n n) ∧ Hid (w.heap.size ≤ A) ∧ Hid (TB w' A n (fun i => some ⟨B, i * m, none⟩) (fun _ => m) (fun _ => m)) ∧ Hid (Up w w')
set_option maxRecDepth 20000 in
theorem upon_makeSz {o : Oper} {a : Act} {next : Act → World → Prop} {Q : Exit → Act → World → Prop} {z : Int} {w : World} {F : Value → World → Result Next} (n : Nat) (hz : z = (n : Int)) (hn : n ≤ 1000000)
    (hk : ∀ g w', Hid (MadeS n g w w') → o.upon Try.prog a next Q (F (.slice (some ⟨g, 0, none⟩) n n) w')) :
    o.upon Try.prog a next Q (((Instr.makeSlice 49 (.int .i64 z) (.int .i64 z)).run Try.prog w).andThen F) := by
  subst hz; exact upon_makeS hn hk
set_option maxRecDepth 20000 in
theorem upon_makeCz {o : Oper} {a : Act} {next : Act → World → Prop} {Q : Exit → Act → World → Prop} {z : Int} {w : World} {F : Value → World → Result Next} (n : Nat) (hz : z = (n : Int)) (hn : n ≤ 1000000)
    (hk : ∀ g w', Hid (Made n g w w') → o.upon Try.prog a next Q (F (.slice (some ⟨g, 0, none⟩) n n) w')) :
    o.upon Try.prog a next Q (((Instr.makeSlice 54 (.int .i64 z) (.int .i64 z)).run Try.prog w).andThen F) := by
  subst hz; exact upon_makeC hn hk
set_option maxRecDepth 20000 in
set_option maxHeartbeats 2000000 in
theorem t42 {w : World} {c v r E R B N : Nat} (hE1 : 1 ≤ E) (hE : E ≤ 16384) (hR : R ≤ 256) (hN : R * E = N) (hN2 : N ≤ 262144) :
    Calls Try.prog 42 #[.agg #[.float .f64 c, .float .f64 v, .float .f64 r, .int .i64 E, .int .i64 R], .slice (some ⟨B, 0, none⟩) N N] w (CT w B R E) := by
  have HB := BC.new w c v r E R
  have HU : Hid (Up w (w.alloc (.cells #[.float .f64 c, .float .f64 v, .float .f64 r, .int .i64 E, .int .i64 R] 63))) := Up.alloc _ _
  obtain ⟨b0, b1, b2, b3, b4⟩ := HB
  have HN : Hid (R * E = N) := hN
  have hlo : Hid (w.heap.size < (w.alloc (.cells #[.float .f64 c, .float .f64 v, .float .f64 r, .int .i64 E, .int .i64 R] 63)).heap.size) := by show _ < _; rw [size_one]; omega
  clear hN b0 b1 b2
  go_enter Try.func42, Try.ntmps42
  go_wp2_with ((with_reducible refine upon_makeSz R rfl (by omega) ?_); intro A w1 HM
               have c3 := cell_up b3 HM.out.2.2
               have c4 := cell_up b4 HM.out.2.2)
  have HS : Hid (CK w w1 A B R E 0) := CK.start HU.out HM.out
  have HA : Hid (w.heap.size ≠ A) := by
    have := HM.out.1
    have := hlo.out
    show _ ≠ _; omega
  have HS' : Hid (Up w1 w1) := Up.refl _
  clear HM HU hlo b3 b4
  go_loopw [6, 7, 8, 14] (fun _ _ _ vi wr => ∃ (k : Nat), k ≤ R ∧ vi = .int .i64 k ∧ Hid (CK w wr A B R E k) ∧ Hid (But A w1 wr)) (fun _ _ _ vi _ => R - (intOf vi).toNat)
  case atStart => exact ⟨0, by omega, rfl, HS, But.refl _ _⟩
  case round =>
    clear HS HS'
    obtain ⟨k, hk, rfl, HS, HW⟩ := hrel
    by_cases hlt : k < R
    · have z1 : (k : Int) < (R : Int) := by omega
      have z2 : (0 : Int) ≤ (k : Int) := by omega
      have d3 := HW.out.cell HA.out c3
      obtain ⟨x, hx⟩ : ∃ x, k * E = x := ⟨_, rfl⟩
      obtain ⟨y, hy⟩ : ∃ y, (k + 1) * E = y := ⟨_, rfl⟩
      have hyx : y = x + E := by rw [← hx, ← hy, Nat.add_mul]; omega
      have hyK : y ≤ N := by rw [← hy, ← HN.out]; exact Nat.mul_le_mul_right _ hlt
      have HX : Hid (k * E = x) := hx
      have q1 : (k : Int) * (E : Int) = x := by rw [← hx, Int.natCast_mul]
      have q2 : ((k : Int) + 1) * (E : Int) = y := by rw [← hy, Int.natCast_mul]; rfl
      clear hx hy
      obtain ⟨v1, i1, f1⟩ := HS.out.cell (Up.refl _) k hlt
      have e1 : IntKind.i64.wrap (x : Int) = x := i64_id (by omega)
      have e2 : IntKind.i64.wrap (y : Int) = y := i64_id (by omega)
      subst hyx
      go_wp2
      go_quiet (fail)
      go_wp2
      go_roundw
      case rel =>
        have P1 := HS.out.put (Up.drewN _ nq) hlt HX.out
        exact ⟨k + 1, by omega, by go_num, P1.1, (HW.out.trans (But.of_up (Up.drewN _ nq))).trans P1.2⟩
      case measure => simp [intOf]; omega
    · obtain rfl : k = R := by omega
      go_wp2
      go_ret
      exact ⟨A, rfl, HS.out.lo, HS.out.done, HS.out.up⟩
/-- Noise, added to the first k samples. -/
def noiseS (S : Nat → C2) (s : Int) (x : Nat) (k i : Nat) : C2 := if i < k then addC (S i) (pairF (it s (24 * i)) x) else S i
theorem noise_next {S : Nat → C2} {s : Int} {x k i : Nat} : noiseS S s x (k + 1) i = if i = k then addC (noiseS S s x k i) (pairF (it s (24 * k)) x) else noiseS S s x k i := by
  unfold noiseS
  by_cases h : i = k
  · subst h
    rw [if_pos (by omega), if_pos rfl, if_neg (by omega)]
  · rw [if_neg h]
    by_cases h2 : i < k
    · rw [if_pos h2, if_pos (by omega)]
    · rw [if_neg h2, if_neg (by omega)]
theorem noise_zero (S : Nat → C2) (s : Int) (x : Nat) : noiseS S s x 0 = S := funext fun i => by unfold noiseS; rw [if_neg (by omega)]
/-- Samples and a source. -/
structure NS (w w1 wr : World) (B N sb : Nat) (s : Int) (x k : Nat) (S : Nat → C2) (d : List (Nat × Nat)) : Prop where
  row : CRow w.heap.size wr (.slice (some ⟨B, 0, none⟩) N N) d
  sc : SC wr sb (it s (24 * k))
  ne : B ≠ sb
  lo : w.heap.size ≤ B
  ls : w.heap.size ≤ sb
  up : Up w wr
  at_ : ∀ i, i < N → ab2 d[i]! = noiseS S s x k i
  keep : ∀ g o v, g ≠ B → g ≠ sb → w1.cell? ⟨g, o, none⟩ = some v → wr.cell? ⟨g, o, none⟩ = some v
def NL (w w1 : World) (B N sb : Nat) (F : Nat → C2) (e : Ending) (w' : World) : Prop := ∃ d, e = .returned (.tuple #[]) ∧ Hid (CRow w.heap.size w' (.slice (some ⟨B, 0, none⟩) N N) d) ∧ Hid (Up w w') ∧ Hid (∀ i, i < N → ab2 d[i]! = F i) ∧ Hid (∀ g o v, g ≠ B → g ≠ sb → w1.cell? ⟨g, o, none⟩ = some v → w'.cell? ⟨g, o, none⟩ = some v)
theorem NS.cell {w w1 wr : World} {B N sb : Nat} {s : Int} {x k : Nat} {S : Nat → C2} {d : List (Nat × Nat)} {r q : Nat} (h : NS w w1 wr B N sb s x k S d) (hk : k < N) (hx : Hid (d[k]! = (r, q))) : wr.cell? ⟨B, k, none⟩ = some (.complex .f64 r q) := by
  have := h.row.cell (i := k) (by rw [h.row.len]; exact hk)
  rw [hx.out] at this; exact this
set_option maxRecDepth 20000 in
theorem eg61 (args : Array Value) (w : World) : (callFunc 61 args).run Try.prog w = .ok (.enter 61 args) w := enters Try.func61 (by kernel_rfl) (by kernel_rfl) _ _
set_option maxRecDepth 20000 in
set_option maxHeartbeats 2000000 in
theorem t40 {w w1 : World} {B N sb x : Nat} {s : Int} {S : Nat → C2} {d : List (Nat × Nat)} (h : NS w w1 w1 B N sb s x 0 S d) (hN : N ≤ 262144) :
    Calls Try.prog 40 #[.slice (some ⟨B, 0, none⟩) N N, .pointer (some ⟨sb, 0, none⟩), .float .f64 x] w1 (NL w w1 B N sb (noiseS S s x N)) := by
  have H0 : Hid (NS w w1 w1 B N sb s x 0 S d) := h
  clear h
  go_enter Try.func40, Try.ntmps40
  go_wp2
  go_loopw [6, 9] (fun _ vi wr => ∃ (k : Nat) (d : List (Nat × Nat)), k ≤ N ∧ vi = .int .i64 k ∧ Hid (NS w w1 wr B N sb s x k S d)) (fun _ vi _ => N - (intOf vi).toNat)
  case atStart => exact ⟨0, d, by omega, rfl, H0⟩
  case round =>
    clear H0
    obtain ⟨k, d, hk, rfl, HS⟩ := hrel
    by_cases hlt : k < N
    · have z1 : (k : Int) < (N : Int) := by omega
      have z2 : (0 : Int) ≤ (k : Int) := by omega
      obtain ⟨r, q, HX⟩ : ∃ r q, Hid (d[k]! = (r, q)) := ⟨_, _, rfl⟩
      go_wp2_with fail
      refine wp_region_ord 7 [(0, none), (1, none), (2, none), (3, some false), (4, none), (5, none), (6, some true)] (fun w' => w'.cell? ⟨B, k, none⟩ = some (.complex .f64 r q)) (by kernel_rfl) (by decide) rfl (by kernel_rfl) (fun _ _ d _ _ h => by cases d <;> exact h) (cell_up (HS.out.cell hlt HX) (Up.drew _)) ?_
      refine ⟨_, .slice (some ⟨B, 0, none⟩) N N, some 12, rfl, rfl, Or.inl ⟨rfl, fun w' hS => ?_⟩, ?_⟩
      · go_simp
      refine ⟨_, .int .i64 k, some 13, rfl, rfl, Or.inl ⟨rfl, fun w' hS => ?_⟩, ?_⟩
      · go_simp
      refine ⟨_, .pointer (some ⟨B, k, none⟩), some 14, rfl, rfl, Or.inl ⟨rfl, fun w' hS => ?_⟩, ?_⟩
      · go_simp
      refine ⟨_, .complex .f64 r q, some 15, rfl, rfl, Or.inl ⟨rfl, fun w' hS => ?_⟩, ?_⟩
      · go_simp
      refine ⟨_, .pointer (some ⟨sb, 0, none⟩), some 16, rfl, rfl, Or.inl ⟨rfl, fun w' hS => ?_⟩, ?_⟩
      · go_simp
      refine ⟨_, .float .f64 x, some 17, rfl, rfl, Or.inl ⟨rfl, fun w' hS => ?_⟩, ?_⟩
      · go_simp
      refine wpOp_call (f := 61) rfl rfl rfl #[.pointer (some ⟨sb, 0, none⟩), .float .f64 x] (by kernel_rfl) (eg61 _ _) ?_
      refine (t61 (HS.out.sc.up (Up.drew _)) x).mono ?_
      rintro e w6 ⟨r3, s3, rfl, hr3, h3, hb3⟩
      have HU6 : Hid (Up w w6) := hb3.out.up (HS.out.up.trans (Up.drew _)) HS.out.ls
      have HR6 : Hid (CRow w.heap.size w6 (.slice (some ⟨B, 0, none⟩) N N) d) := (HS.out.row.up (Up.drew _)).far hb3.out HS.out.ne
      refine ⟨_, rfl, hb3.out.cell HS.out.ne (cell_up (HS.out.cell hlt HX) (Up.drew _)), ?_⟩
      have i1 : (w6.cell? ⟨B, k, none⟩).isSome = true := by rw [HR6.out.cell (by rw [HR6.out.len]; exact hlt)]; rfl
      have f1 := HR6.out.frz k
      simp only [OrdW, List.drop_succ_cons, List.drop_zero, Act.put, List.setIfInBounds_toArray, List.set_cons_succ, List.set_cons_zero]
      go_wp2_with ((with_reducible refine upon_cadd ?_); intro r4 s4 n4 hr4 hs4)
      go_roundw
      case rel =>
        have P1 := (HR6.out.up (Up.drewN _ n4)).put k r4 s4
        refine ⟨k + 1, _, by omega, by go_num, P1.1, ?_, HS.out.ne, HS.out.lo, HS.out.ls, P1.2.up (HU6.out.trans (Up.drewN _ _)) HS.out.lo, fun i hi => ?_, fun g o v n1 n2 hv => P1.2.cell n1 (cell_up (hb3.out.cell n2 (cell_up (HS.out.keep g o v n1 n2 hv) (Up.drew _))) (Up.drewN _ n4))⟩
        · have q := (h3.out.up (Up.drewN _ n4)).but P1.2 (Ne.symm HS.out.ne)
          rw [it_add, show 24 * k + 24 = 24 * (k + 1) by omega] at q
          exact q
        · rw [set_at _ _ _ _ (by rw [HR6.out.len]; exact hlt), noise_next]
          split
          · rename_i e
            subst e
            have e1 := HS.out.at_ i hi
            rw [HX.out] at e1
            rw [← e1, ← hr3.out]
            simp only [ab2, addC]
            rw [hr4.out, hs4.out]
          · exact HS.out.at_ i hi
      case measure => simp [intOf]; omega
    · obtain rfl : k = N := by omega
      go_wp2
      go_end0
      exact ⟨d, rfl, HS.out.row, HS.out.up, HS.out.at_, HS.out.keep⟩
end Go.Proofs.Ytgalgnopjcpocaa

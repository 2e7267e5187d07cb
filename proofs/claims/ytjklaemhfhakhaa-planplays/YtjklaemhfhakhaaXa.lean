/- Tasks, lists of tasks, of small numbers that are handed in, opened. -/
import Derived.Test.YtjklaemhfhakhaaEe
import Derived.ProofKit
import Derived.OpenShut
import Derived.SizedLaws
import Derived.Carry
import Derived.Deep.Slices
import Derived.Deep.Grids
import Derived.Laws.IdiomArrays
import Derived.ChangeSlices
namespace Go.Proofs.Ytjklaemhfhakhaa
open Go.ChangeShapes Go.WideShapes Go.ChangeAt Go.RowKit

theorem ownK : ownKnob Try.prog.godebug = none := by kernel_rfl
set_option maxRecDepth 100000 in
theorem laidOut : laidOutB Try.prog = true := by kernel_rfl
theorem int_wf {n : Int} (h : (Lit.int .i64 n).wf = true) : -9223372036854775808 ≤ n ∧ n ≤ 9223372036854775807 := by
  have h2 : (decide ((-9223372036854775808 : Int) ≤ n) && decide (n ≤ 9223372036854775807)) = true := h
  simpa using h2
theorem i16_wf {n : Int} (h : (Lit.int .i16 n).wf = true) : -32768 ≤ n ∧ n ≤ 32767 := by
  have h2 : (decide ((-32768 : Int) ≤ n) && decide (n ≤ 32767)) = true := h
  simpa using h2
theorem u8_wf {n : Int} (h : (Lit.int .u8 n).wf = true) : 0 ≤ n ∧ n ≤ 255 := by
  have h2 : (decide ((0 : Int) ≤ n) && decide (n ≤ 255)) = true := h
  simpa using h2
theorem u16_wf {n : Int} (h : (Lit.int .u16 n).wf = true) : 0 ≤ n ∧ n ≤ 65535 := by
  have h2 : (decide ((0 : Int) ≤ n) && decide (n ≤ 65535)) = true := h
  simpa using h2
theorem cells2 : Try.prog.cellsOf 2 = 1 := by kernel_rfl
theorem cells3i : Try.prog.cellsOf 3 = 1 := by kernel_rfl
theorem cells26 : Try.prog.cellsOf 26 = 3 := by kernel_rfl
theorem bytes26 : Try.prog.bytesOf 26 = 24 := by kernel_rfl
def tkC (s : Tk) : List Value := [.int .i64 s.e, .int .i64 s.l, .int .i64 s.r]
theorem three_list {α : Type} {l : List α} (h : l.length = 3) : ∃ a b c, l = [a, b, c] := by
  match l, h with
  | [a, b, c], _ => exact ⟨a, b, c, rfl⟩
theorem three_arr {α : Type} {cs : Array α} (h : cs.size = 3) : ∃ a b c, cs = #[a, b, c] := by
  obtain ⟨l⟩ := cs
  match l, h with
  | [a, b, c], _ => exact ⟨a, b, c, rfl⟩
/-- A number that fits into a word. -/
def I64 (x : Int) : Prop := -9223372036854775808 ≤ x ∧ x ≤ 9223372036854775807
structure Tk.Fit (t : Tk) : Prop where
  e : I64 t.e
  l : I64 t.l
  r : I64 t.r
theorem trod_task {H : Type} {enc : TypeId × Value → H} {W : World} {base fuel : Nat} {spare : Nat → Bool} {held : Bool} {cs : List Value} {x : DataW H × List MemPlace} (hl : cs.length = 3) (h : DataW.trod enc Try.prog W base spare held fuel 26 cs = some x) : ∃ s : Tk, cs = tkC s ∧ s.Fit := by
  obtain ⟨c0, c1, c2, rfl⟩ := three_list hl
  obtain ⟨xs, n, _, _, _, hlen, hall⟩ := DataW.trod_struct Try.underlying26 h
  obtain ⟨y0, y1, y2, rfl⟩ := three_list (by simpa using hlen)
  have e0 : DataW.trod enc Try.prog W base spare held n 2 [c0] = some y0 := by simpa [cells2] using hall 0 _ rfl
  have e1 : DataW.trod enc Try.prog W base spare held n 2 [c1] = some y1 := by simpa [cells2] using hall 1 _ rfl
  have e2 : DataW.trod enc Try.prog W base spare held n 3 [c2] = some y2 := by simpa [cells3i] using hall 2 _ rfl
  obtain ⟨x0, k0, _, v0⟩ := DataW.trod_int Try.underlying2 e0
  obtain ⟨x1, k1, _, v1⟩ := DataW.trod_int Try.underlying2 e1
  obtain ⟨x2, k2, _, v2⟩ := DataW.trod_int Try.underlying3 e2
  simp only [List.cons.injEq, and_true] at k0 k1 k2
  subst k0 k1 k2
  exact ⟨⟨x0, x1, x2⟩, rfl, int_wf v0, int_wf v1, int_wf v2⟩
set_option maxRecDepth 20000 in
/-- A task by itself. -/
theorem open_task {H : Type} {enc : TypeId × Value → H} {W : World} {base : Nat} {spare : Nat → Bool} {held : Bool} {v : Value} {d : DataW H} {p : List MemPlace} {r : Reach} {b0 : Nat} (hv : Value.okWide Try.prog W r b0 26 v) (h : DataW.Trod enc Try.prog W base spare held 26 v d p) :
    ∃ e l r : Int, v = .agg #[.int .i64 e, .int .i64 l, .int .i64 r] ∧ Tk.Fit ⟨e, l, r⟩ := by
  obtain ⟨cs, rfl, hsz⟩ := okWide_struct Try.underlying26 hv
  obtain ⟨c0, c1, c2, rfl⟩ := three_arr (hsz.trans cells26)
  obtain ⟨fuel, hf⟩ := h
  obtain ⟨s, hs, k⟩ := trod_task (cs := [c0, c1, c2]) rfl hf
  simp only [tkC, List.cons.injEq, and_true] at hs
  obtain ⟨rfl, rfl, rfl⟩ := hs
  exact ⟨s.e, s.l, s.r, rfl, k⟩
theorem open_tasks {H : Type} {enc : TypeId × Value → H} {w : World} {base fuel : Nat} {held : Bool} {cs : List Value} {x : DataW H × List MemPlace} (h : DataW.trod enc Try.prog w base (fun _ => true) held fuel 22 cs = some x) :
    (cs = [.slice none 0 0] ∧ x = (.nil, [])) ∨ ∃ (a : Addr) (len cap : Nat) (es rs : List (DataW H)) (D : Nat → Tk), cs = [.slice (some a) len cap] ∧ x.1 = .slice es rs ∧ es.length = len ∧ len ≤ cap ∧ (0 < len → ∃ blk off, a = ⟨blk, off, none⟩ ∧ ∀ i, i < len → TkAt w blk (off + i * 3) (D i) ∧ (D i).Fit) := by
  rcases Go.Deep.open_slice Try.underlying22 h with h0 | ⟨a, len, cap, m, n, D, Pl, rfl, hb, hl, hm, hmm, rfl, hx⟩
  · exact Or.inl h0
  right
  rw [cells26] at hx
  simp only [if_true] at hmm
  subst hmm
  obtain ⟨B', hB'⟩ := Go.Deep.choose_lt (α := Int × Int × Int) (p := fun i s => (∀ j, j < 3 → w.cell? ((a.add (i * 3)).add j) = (tkC ⟨s.1, s.2.1, s.2.2⟩)[j]?) ∧ Tk.Fit ⟨s.1, s.2.1, s.2.2⟩) (fun i hi => by
    obtain ⟨cs', h1, h2⟩ := hx i hi
    obtain ⟨_, k1, k2⟩ := World.cells?_some h1
    obtain ⟨s, rfl, hfit⟩ := trod_task k1 h2
    exact ⟨(s.e, s.l, s.r), k2, hfit⟩)
  obtain ⟨B, hB⟩ : ∃ B : Nat → Tk, ∀ i, i < m → (∀ j, j < 3 → w.cell? ((a.add (i * 3)).add j) = (tkC (B i))[j]?) ∧ (B i).Fit := ⟨fun i => ⟨(B' i).1, (B' i).2.1, (B' i).2.2⟩, hB'⟩
  refine ⟨a, len, m, _, _, B, rfl, rfl, by simp, by omega, fun hp => ?_⟩
  have h0 := (hB 0 (by omega)).1 0 (by omega)
  obtain ⟨blk, off, spot⟩ := a
  have hs : spot = none := by
    rw [Go.Deep.add_add] at h0
    simp only [Addr.add, if_true, Nat.zero_mul, Nat.add_zero] at h0
    unfold World.cell? at h0
    split at h0
    · cases spot with
      | none => rfl
      | some s => simp [tkC] at h0
    · simp [tkC] at h0
  subst hs
  refine ⟨blk, off, rfl, fun i hi => ?_⟩
  have e : ∀ j, (⟨blk, off, none⟩ : Addr).add j = ⟨blk, off + j, none⟩ := fun j => addr_add _ _ _
  obtain ⟨hc, hfit⟩ := hB i (by omega)
  have c0 := hc 0 (by omega)
  have c1 := hc 1 (by omega)
  have c2 := hc 2 (by omega)
  rw [Go.Deep.add_add, e] at c0 c1 c2
  simp only [tkC, List.getElem?_cons_zero, List.getElem?_cons_succ] at c0 c1 c2
  exact ⟨⟨c0, by rw [Nat.add_assoc]; exact c1, by rw [Nat.add_assoc]; exact c2⟩, hfit⟩
set_option maxRecDepth 20000 in
/-- Tasks that are handed in. -/
theorem open_tl {H : Type} {enc : TypeId × Value → H} {W : World} {base : Nat} {held : Bool} {v : Value} {d : DataW H} {p : List MemPlace} {r : Reach} {b0 : Nat} (hv : Value.okWide Try.prog W r b0 22 v) (h : DataW.Trod enc Try.prog W base (fun _ => true) held 22 v d p) (hsz : ∀ es rs, d = .slice es rs → (es.length + rs.length) * 24 ≤ reachBytes) :
    ∃ (q : Option Addr) (n c : Nat) (T : Nat → Tk), v = .slice q n c ∧ TL W q n c T ∧ (∀ i, i < n → (T i).Fit) ∧ n ≤ 1152921504606846976 := by
  obtain ⟨a0, len, cap, rfl⟩ := okWide_slice Try.underlying22 hv
  obtain ⟨fuel, hf⟩ := h
  rcases open_tasks hf with ⟨hcs, hx⟩ | ⟨a, len', cap', es, rs, D, hcs, hx, hel, hle, hR⟩
  · simp [Value.cells] at hcs
    obtain ⟨rfl, rfl, rfl⟩ := hcs
    exact ⟨none, 0, 0, fun _ => ⟨0, 0, 0⟩, rfl, ⟨Nat.le_refl _, fun h => by omega⟩, fun i hi => by omega, by omega⟩
  · simp [Value.cells] at hcs
    obtain ⟨rfl, rfl, rfl⟩ := hcs
    have hw := hsz es rs hx
    unfold reachBytes at hw
    refine ⟨some a, len, cap, D, rfl, ⟨hle, fun h0 => ?_⟩, fun i hi => ?_, by omega⟩
    · obtain ⟨b, o, e, r⟩ := hR h0
      exact ⟨b, o, by rw [e], fun i hi => (r i hi).1⟩
    · obtain ⟨b, o, e, r⟩ := hR (by omega)
      exact (r i hi).2
/-- A list of small numbers that can be read. -/
structure IL (k : IntKind) (w : World) (p : Option Addr) (n cap : Nat) (z : Nat → Int) : Prop where
  cap : n ≤ cap
  few : n ≤ 9223372036854775807
  wf : ∀ i, i < n → (Lit.int k (z i)).wf = true
  rd : 0 < n → ∃ b o, p = some ⟨b, o, none⟩ ∧ ∀ i, i < n → w.cell? ⟨b, o + i, none⟩ = some (.int k (z i))
theorem IL.up {k : IntKind} {w w' : World} {p : Option Addr} {n cap : Nat} {z : Nat → Int} (h : IL k w p n cap z) (hu : Up w w') : IL k w' p n cap z :=
  ⟨h.cap, h.few, h.wf, fun h0 => by
    obtain ⟨b, o, e, k⟩ := h.rd h0
    exact ⟨b, o, e, fun i hi => cell_up (k i hi) hu⟩⟩
theorem cells51x : Try.prog.cellsOf 51 = 1 := by kernel_rfl
theorem bytes51x : Try.prog.bytesOf 51 = 2 := by kernel_rfl
set_option maxRecDepth 20000 in
theorem open_i16s {H : Type} {enc : TypeId × Value → H} {W : World} {base : Nat} {held : Bool} {v : Value} {d : DataW H} {p : List MemPlace} {r : Reach} {b0 : Nat} (hv : Value.okWide Try.prog W r b0 49 v) (h : DataW.Trod enc Try.prog W base (fun _ => true) held 49 v d p) :
    ∃ (q : Option Addr) (n c : Nat) (z : Nat → Int), v = .slice q n c ∧ IL .i16 W q n c z := by
  obtain ⟨a0, len, cap, rfl⟩ := okWide_slice Try.underlying49 hv
  obtain ⟨fuel, hf⟩ := h
  rcases open_ints Try.underlying49 Try.underlying51 cells51x hf with ⟨hcs, _⟩ | ⟨a, len', cap', zs, hcs, hb, hl, hm, hz, hx, hcell, hwf⟩
  · simp [Value.cells] at hcs
    obtain ⟨rfl, rfl, rfl⟩ := hcs
    exact ⟨none, 0, 0, fun _ => 0, rfl, Nat.le_refl _, by omega, fun i hi => by omega, fun h => by omega⟩
  · simp [Value.cells] at hcs
    obtain ⟨rfl, rfl, rfl⟩ := hcs
    simp only [if_true] at hz
    unfold maxLen at hm
    refine ⟨some a, len, cap, fun i => zs.getD i 0, rfl, hl, by omega, fun i hi => ?_, fun h0 => ?_⟩
    · refine hwf _ ?_
      have : i < zs.length := by omega
      rw [List.getD_eq_getElem?_getD, List.getElem?_eq_getElem this]
      exact List.getElem_mem this
    · have c0 := hcell 0 (by omega)
      obtain ⟨blk, off, spot⟩ := a
      have hs : spot = none := by
        simp only [Addr.add, if_true] at c0
        unfold World.cell? at c0
        split at c0
        · cases spot with
          | none => rfl
          | some s => simp at c0
        · simp at c0
      subst hs
      refine ⟨blk, off, rfl, fun i hi => ?_⟩
      have := hcell i (by omega)
      rwa [addr_add] at this
theorem cells5x : Try.prog.cellsOf 5 = 1 := by kernel_rfl
theorem bytes5x : Try.prog.bytesOf 5 = 1 := by kernel_rfl
set_option maxRecDepth 20000 in
theorem open_u8s {H : Type} {enc : TypeId × Value → H} {W : World} {base : Nat} {held : Bool} {v : Value} {d : DataW H} {p : List MemPlace} {r : Reach} {b0 : Nat} (hv : Value.okWide Try.prog W r b0 53 v) (h : DataW.Trod enc Try.prog W base (fun _ => true) held 53 v d p) :
    ∃ (q : Option Addr) (n c : Nat) (z : Nat → Int), v = .slice q n c ∧ IL .u8 W q n c z := by
  obtain ⟨a0, len, cap, rfl⟩ := okWide_slice Try.underlying53 hv
  obtain ⟨fuel, hf⟩ := h
  rcases open_ints Try.underlying53 Try.underlying5 cells5x hf with ⟨hcs, _⟩ | ⟨a, len', cap', zs, hcs, hb, hl, hm, hz, hx, hcell, hwf⟩
  · simp [Value.cells] at hcs
    obtain ⟨rfl, rfl, rfl⟩ := hcs
    exact ⟨none, 0, 0, fun _ => 0, rfl, Nat.le_refl _, by omega, fun i hi => by omega, fun h => by omega⟩
  · simp [Value.cells] at hcs
    obtain ⟨rfl, rfl, rfl⟩ := hcs
    simp only [if_true] at hz
    unfold maxLen at hm
    refine ⟨some a, len, cap, fun i => zs.getD i 0, rfl, hl, by omega, fun i hi => ?_, fun h0 => ?_⟩
    · refine hwf _ ?_
      have : i < zs.length := by omega
      rw [List.getD_eq_getElem?_getD, List.getElem?_eq_getElem this]
      exact List.getElem_mem this
    · have c0 := hcell 0 (by omega)
      obtain ⟨blk, off, spot⟩ := a
      have hs : spot = none := by
        simp only [Addr.add, if_true] at c0
        unfold World.cell? at c0
        split at c0
        · cases spot with
          | none => rfl
          | some s => simp at c0
        · simp at c0
      subst hs
      refine ⟨blk, off, rfl, fun i hi => ?_⟩
      have := hcell i (by omega)
      rwa [addr_add] at this
end Go.Proofs.Ytjklaemhfhakhaa
/- A script that is handed in, opened; tasks, with their bound. -/
namespace Go.Proofs.Ytjklaemhfhakhaa
open Go.ChangeShapes Go.WideShapes Go.ChangeAt Go.RowKit

theorem cells36 : Try.prog.cellsOf 36 = 6 := by kernel_rfl
/-- A step of a script. -/
structure Stp where
  d : Int
  t : Int
  i : Int
  e : Int
  l : Int
  r : Int
def stC (s : Stp) : List Value := [.int .i64 s.d, .int .i64 s.t, .int .i64 s.i, .int .i64 s.e, .int .i64 s.l, .int .i64 s.r]
def Stp.val (s : Stp) : Value := .agg #[.int .i64 s.d, .int .i64 s.t, .int .i64 s.i, .int .i64 s.e, .int .i64 s.l, .int .i64 s.r]
theorem six_list {α : Type} {l : List α} (h : l.length = 6) : ∃ a b c d e f, l = [a, b, c, d, e, f] := by
  match l, h with
  | [a, b, c, d, e, f], _ => exact ⟨a, b, c, d, e, f, rfl⟩
theorem four_list {α : Type} {l : List α} (h : l.length = 4) : ∃ a b c d, l = [a, b, c, d] := by
  match l, h with
  | [a, b, c, d], _ => exact ⟨a, b, c, d, rfl⟩
set_option maxRecDepth 20000 in
theorem trod_stp {H : Type} {enc : TypeId × Value → H} {W : World} {base fuel : Nat} {spare : Nat → Bool} {held : Bool} {cs : List Value} {x : DataW H × List MemPlace} (hl : cs.length = 6) (h : DataW.trod enc Try.prog W base spare held fuel 36 cs = some x) : ∃ s : Stp, cs = stC s ∧ I64 s.t := by
  obtain ⟨c0, c1, c2, c3, c4, c5, rfl⟩ := six_list hl
  obtain ⟨xs, n, _, _, _, hlen, hall⟩ := DataW.trod_struct Try.underlying36 h
  obtain ⟨y0, y1, y2, y3, rfl⟩ := four_list (by simpa using hlen)
  have e0 : DataW.trod enc Try.prog W base spare held n 3 [c0] = some y0 := by simpa [cells3i] using hall 0 _ rfl
  have e1 : DataW.trod enc Try.prog W base spare held n 2 [c1] = some y1 := by simpa [cells2] using hall 1 _ rfl
  have e2 : DataW.trod enc Try.prog W base spare held n 3 [c2] = some y2 := by simpa [cells3i] using hall 2 _ rfl
  have e3 : DataW.trod enc Try.prog W base spare held n 26 [c3, c4, c5] = some y3 := by simpa [cells26] using hall 3 _ rfl
  obtain ⟨x0, k0, _, v0⟩ := DataW.trod_int Try.underlying3 e0
  obtain ⟨x1, k1, _, v1⟩ := DataW.trod_int Try.underlying2 e1
  obtain ⟨x2, k2, _, v2⟩ := DataW.trod_int Try.underlying3 e2
  obtain ⟨T, k3, _⟩ := trod_task rfl e3
  simp only [List.cons.injEq, and_true, tkC] at k0 k1 k2 k3
  obtain ⟨rfl, rfl, rfl⟩ := k3
  subst k0 k1 k2
  exact ⟨⟨x0, x1, x2, T.e, T.l, T.r⟩, rfl, int_wf v1⟩
structure StpAt (w : World) (g o : Nat) (s : Stp) : Prop where
  c0 : w.cell? ⟨g, o, none⟩ = some (.int .i64 s.d)
  c1 : w.cell? ⟨g, o + 1, none⟩ = some (.int .i64 s.t)
  c2 : w.cell? ⟨g, o + 2, none⟩ = some (.int .i64 s.i)
  c3 : w.cell? ⟨g, o + 3, none⟩ = some (.int .i64 s.e)
  c4 : w.cell? ⟨g, o + 4, none⟩ = some (.int .i64 s.l)
  c5 : w.cell? ⟨g, o + 5, none⟩ = some (.int .i64 s.r)
theorem StpAt.up {w w' : World} {g o : Nat} {s : Stp} (h : StpAt w g o s) (hu : Up w w') : StpAt w' g o s := ⟨cell_up h.c0 hu, cell_up h.c1 hu, cell_up h.c2 hu, cell_up h.c3 hu, cell_up h.c4 hu, cell_up h.c5 hu⟩
/-- A script that can be read. -/
structure ScL (w : World) (p : Option Addr) (n cap : Nat) (S : Nat → Stp) : Prop where
  cap : n ≤ cap
  rd : 0 < n → ∃ b o, p = some ⟨b, o, none⟩ ∧ ∀ i, i < n → StpAt w b (o + i * 6) (S i)
  big : ∀ i, i < n → I64 (S i).t
theorem ScL.up {w w' : World} {p : Option Addr} {n cap : Nat} {S : Nat → Stp} (h : ScL w p n cap S) (hu : Up w w') : ScL w' p n cap S :=
  ⟨h.cap, fun h0 => by
    obtain ⟨b, o, e, k⟩ := h.rd h0
    exact ⟨b, o, e, fun i hi => (k i hi).up hu⟩, h.big⟩
theorem open_stps {H : Type} {enc : TypeId × Value → H} {w : World} {base fuel : Nat} {held : Bool} {cs : List Value} {x : DataW H × List MemPlace} (h : DataW.trod enc Try.prog w base (fun _ => true) held fuel 23 cs = some x) :
    (cs = [.slice none 0 0]) ∨ ∃ (a : Addr) (len cap : Nat) (D : Nat → Stp), cs = [.slice (some a) len cap] ∧ len ≤ cap ∧ (0 < len → ∃ blk off, a = ⟨blk, off, none⟩ ∧ ∀ i, i < len → StpAt w blk (off + i * 6) (D i) ∧ I64 (D i).t) := by
  rcases Go.Deep.open_slice Try.underlying23 h with ⟨h0, _⟩ | ⟨a, len, cap, m, n, D, Pl, rfl, hb, hl, hm, hmm, rfl, hx⟩
  · exact Or.inl h0
  right
  rw [cells36] at hx
  simp only [if_true] at hmm
  subst hmm
  obtain ⟨B', hB'⟩ := Go.Deep.choose_lt (α := (Int × Int × Int) × (Int × Int × Int)) (p := fun i s => (∀ j, j < 6 → w.cell? ((a.add (i * 6)).add j) = (stC ⟨s.1.1, s.1.2.1, s.1.2.2, s.2.1, s.2.2.1, s.2.2.2⟩)[j]?) ∧ I64 s.1.2.1) (fun i hi => by
    obtain ⟨cs', h1, h2⟩ := hx i hi
    obtain ⟨_, k1, k2⟩ := World.cells?_some h1
    obtain ⟨s, rfl, hfit⟩ := trod_stp k1 h2
    exact ⟨((s.d, s.t, s.i), (s.e, s.l, s.r)), k2, hfit⟩)
  obtain ⟨B, hB⟩ : ∃ B : Nat → Stp, ∀ i, i < m → (∀ j, j < 6 → w.cell? ((a.add (i * 6)).add j) = (stC (B i))[j]?) ∧ I64 (B i).t := ⟨fun i => ⟨(B' i).1.1, (B' i).1.2.1, (B' i).1.2.2, (B' i).2.1, (B' i).2.2.1, (B' i).2.2.2⟩, hB'⟩
  refine ⟨a, len, m, B, rfl, by omega, fun hp => ?_⟩
  have h0 := (hB 0 (by omega)).1 0 (by omega)
  obtain ⟨blk, off, spot⟩ := a
  have hs : spot = none := by
    rw [Go.Deep.add_add] at h0
    simp only [Addr.add, if_true, Nat.zero_mul, Nat.add_zero] at h0
    unfold World.cell? at h0
    split at h0
    · cases spot with
      | none => rfl
      | some s => simp [stC] at h0
    · simp [stC] at h0
  subst hs
  refine ⟨blk, off, rfl, fun i hi => ?_⟩
  have e : ∀ j, (⟨blk, off, none⟩ : Addr).add j = ⟨blk, off + j, none⟩ := fun j => addr_add _ _ _
  obtain ⟨hc, hfit⟩ := hB i (by omega)
  have c0 := hc 0 (by omega)
  have c1 := hc 1 (by omega)
  have c2 := hc 2 (by omega)
  have c3 := hc 3 (by omega)
  have c4 := hc 4 (by omega)
  have c5 := hc 5 (by omega)
  rw [Go.Deep.add_add, e] at c0 c1 c2 c3 c4 c5
  simp only [stC, List.getElem?_cons_zero, List.getElem?_cons_succ] at c0 c1 c2 c3 c4 c5
  exact ⟨⟨c0, by rw [Nat.add_assoc]; exact c1, by rw [Nat.add_assoc]; exact c2, by rw [Nat.add_assoc]; exact c3, by rw [Nat.add_assoc]; exact c4, by rw [Nat.add_assoc]; exact c5⟩, hfit⟩
set_option maxRecDepth 20000 in
/-- A script that is handed in. -/
theorem open_scl {H : Type} {enc : TypeId × Value → H} {W : World} {base : Nat} {held : Bool} {v : Value} {d : DataW H} {p : List MemPlace} {r : Reach} {b0 : Nat} (hv : Value.okWide Try.prog W r b0 23 v) (h : DataW.Trod enc Try.prog W base (fun _ => true) held 23 v d p) :
    ∃ (q : Option Addr) (n c : Nat) (S : Nat → Stp), v = .slice q n c ∧ ScL W q n c S := by
  obtain ⟨a0, len, cap, rfl⟩ := okWide_slice Try.underlying23 hv
  obtain ⟨fuel, hf⟩ := h
  rcases open_stps hf with hcs | ⟨a, len', cap', D, hcs, hle, hR⟩
  · simp [Value.cells] at hcs
    obtain ⟨rfl, rfl, rfl⟩ := hcs
    exact ⟨none, 0, 0, fun _ => ⟨0, 0, 0, 0, 0, 0⟩, rfl, ⟨Nat.le_refl _, fun h => by omega, fun i hi => by omega⟩⟩
  · simp [Value.cells] at hcs
    obtain ⟨rfl, rfl, rfl⟩ := hcs
    refine ⟨some a, len, cap, D, rfl, ⟨hle, fun h0 => ?_, fun i hi => ?_⟩⟩
    · obtain ⟨b, o, e, r⟩ := hR h0
      exact ⟨b, o, by rw [e], fun i hi => (r i hi).1⟩
    · obtain ⟨b, o, e, r⟩ := hR (by omega)
      exact (r i hi).2
set_option maxRecDepth 20000 in
/-- Tasks that are handed in: not too many of them. -/
theorem open_tlb {H : Type} {enc : TypeId × Value → H} {W : World} {base : Nat} {held : Bool} {v : Value} {d : DataW H} {p : List MemPlace} {r : Reach} {b0 : Nat} (hv : Value.okWide Try.prog W r b0 22 v) (h : DataW.Trod enc Try.prog W base (fun _ => true) held 22 v d p) (hsz : ∀ es rs, d = .slice es rs → (es.length + rs.length) * 24 ≤ reachBytes) :
    ∃ (q : Option Addr) (n c : Nat) (T : Nat → Tk), v = .slice q n c ∧ TL W q n c T ∧ (n + 1) * 24 ≤ 140737488355328 := by
  obtain ⟨a0, len, cap, rfl⟩ := okWide_slice Try.underlying22 hv
  obtain ⟨fuel, hf⟩ := h
  rcases open_tasks hf with ⟨hcs, hx⟩ | ⟨a, len', cap', es, rs, D, hcs, hx, hel, hle, hR⟩
  · simp [Value.cells] at hcs
    obtain ⟨rfl, rfl, rfl⟩ := hcs
    exact ⟨none, 0, 0, fun _ => ⟨0, 0, 0⟩, rfl, ⟨Nat.le_refl _, fun h => by omega⟩, by omega⟩
  · simp [Value.cells] at hcs
    obtain ⟨rfl, rfl, rfl⟩ := hcs
    have hw := hsz es rs hx
    unfold reachBytes at hw
    refine ⟨some a, len, cap, D, rfl, ⟨hle, fun h0 => ?_⟩, by omega⟩
    obtain ⟨b, o, e, r⟩ := hR h0
    exact ⟨b, o, by rw [e], fun i hi => (r i hi).1⟩
end Go.Proofs.Ytjklaemhfhakhaa

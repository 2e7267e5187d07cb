/- lookoutlaw11.NoisePlays returns true for every two seeds and every list of what is asked: two sources in turns, and one that is not there, tell what the document's tell, answer by answer, by bits; and the arguments stay. No condition. -/
import Derived.Test.YtcocliilapeelaaZb
import Derived.ProofKit
import Derived.OpenShut
import Derived.SizedLaws
import Derived.Carry
import Derived.Deep.Grids
namespace Go.Proofs.Ytcocliilapeelaa
namespace noisePlays
open Go.ChangeShapes Go.WideShapes Go.ChangeAt Go.RowKit Go.Fl

theorem ownK : ownKnob Try.prog.godebug = none := by kernel_rfl
theorem laidOut : laidOutB Try.prog = true := by kernel_rfl
theorem cells3 : Try.prog.cellsOf 3 = 1 := by kernel_rfl
theorem cells22 : Try.prog.cellsOf 22 = 1 := by kernel_rfl
theorem cells28 : Try.prog.cellsOf 28 = 1 := by kernel_rfl
theorem cells30 : Try.prog.cellsOf 30 = 4 := by kernel_rfl
theorem spot_of {w : World} {blk off : Nat} {spot : Option Nat} {x : Int} (h : w.cell? ⟨blk, off, spot⟩ = some (.int .i64 x)) : spot = none := by
  unfold World.cell? at h
  split at h
  · cases spot with
    | none => rfl
    | some s => simp at h
  · simp at h
/-- What an int's cell holds; a float's. -/
def intAt : Option Value → Int
  | some (.int _ x) => x
  | _ => 0
def floatAt : Option Value → Nat
  | some (.float _ x) => x
  | _ => 0
theorem add_at (blk off j : Nat) : (⟨blk, off, none⟩ : Addr).add j = ⟨blk, off + j, none⟩ := by
  unfold Addr.add
  split
  · rename_i hj0; rw [hj0]; rfl
  · rfl
theorem trod_float {H : Type} {enc : TypeId × Value → H} {P : Program} {w : World} {base : Nat} {spare : Nat → Bool} {held : Bool} {fuel : Nat} {t : TypeId} {cs : List Value} {x : DataW H × List MemPlace} {k : FloatKind} (ht : P.underlying t = some (.float k)) (h : DataW.trod enc P w base spare held fuel t cs = some x) : ∃ n, cs = [.float k n] ∧ (Lit.float k n).wf = true := by
  cases fuel with
  | zero => simp [DataW.trod] at h
  | succ n =>
    unfold DataW.trod at h
    rw [ht] at h
    split at h <;> simp_all
theorem four_list {α : Type} {l : List α} (h : l.length = 4) : ∃ a b c d, l = [a, b, c, d] := by
  match l, h with
  | [a, b, c, d], _ => exact ⟨a, b, c, d, rfl⟩
/-- One of the list. -/
theorem one_of {H : Type} {enc : TypeId × Value → H} {W : World} {base : Nat} {spare : Nat → Bool} {held : Bool} {n : Nat} {a : Addr} {cs : List Value} {y : DataW H × List MemPlace} (h1 : W.cells? base a 4 = some cs) (h2 : DataW.trod enc Try.prog W base spare held n 30 cs = some y) :
    ∃ (x0 x1 x2 : Int) (x3 : Nat), W.cell? (a.add 0) = some (.int .i64 x0) ∧ W.cell? (a.add 1) = some (.int .i64 x1) ∧ W.cell? (a.add 2) = some (.int .u64 x2) ∧ W.cell? (a.add 3) = some (.float .f64 x3) := by
  obtain ⟨_, hl, hc⟩ := World.cells?_some h1
  obtain ⟨c0, c1, c2, c3, rfl⟩ := four_list hl
  obtain ⟨xs, m, _, _, _, hlen, hall⟩ := DataW.trod_struct Try.underlying30 h2
  obtain ⟨y0, y1, y2, y3, rfl⟩ := four_list (by simpa using hlen)
  have e0 : DataW.trod enc Try.prog W base spare held m 3 [c0] = some y0 := by simpa [Value.cells, cells3] using hall 0 _ rfl
  have e1 : DataW.trod enc Try.prog W base spare held m 3 [c1] = some y1 := by simpa [Value.cells, cells3] using hall 1 _ rfl
  have e2 : DataW.trod enc Try.prog W base spare held m 22 [c2] = some y2 := by simpa [Value.cells, cells22] using hall 2 _ rfl
  have e3 : DataW.trod enc Try.prog W base spare held m 28 [c3] = some y3 := by simpa [Value.cells, cells28] using hall 3 _ rfl
  obtain ⟨z0, k0, _, _⟩ := DataW.trod_int Try.underlying3 e0
  obtain ⟨z1, k1, _, _⟩ := DataW.trod_int Try.underlying3 e1
  obtain ⟨z2, k2, _, _⟩ := DataW.trod_int Try.underlying22 e2
  obtain ⟨z3, k3, _⟩ := trod_float Try.underlying28 e3
  simp only [List.cons.injEq, and_true] at k0 k1 k2 k3
  subst k0 k1 k2 k3
  exact ⟨z0, z1, z2, z3, hc 0 (by omega), hc 1 (by omega), hc 2 (by omega), hc 3 (by omega)⟩
theorem rows_in {w : World} {a : Addr} {len : Nat} (h0 : 0 < len) (hc : ∀ i, i < len → ∃ (x0 x1 x2 : Int) (x3 : Nat), w.cell? ((a.add (i * 4)).add 0) = some (.int .i64 x0) ∧ w.cell? ((a.add (i * 4)).add 1) = some (.int .i64 x1) ∧ w.cell? ((a.add (i * 4)).add 2) = some (.int .u64 x2) ∧ w.cell? ((a.add (i * 4)).add 3) = some (.float .f64 x3)) :
    ∃ blk off, a = ⟨blk, off, none⟩ ∧ ∀ i, i < len → w.cell? ⟨blk, off + i * 4, none⟩ = some (.int .i64 (intAt (w.cell? ⟨blk, off + i * 4, none⟩))) ∧ w.cell? ⟨blk, off + i * 4 + 1, none⟩ = some (.int .i64 (intAt (w.cell? ⟨blk, off + i * 4 + 1, none⟩))) ∧ w.cell? ⟨blk, off + i * 4 + 2, none⟩ = some (.int .u64 (intAt (w.cell? ⟨blk, off + i * 4 + 2, none⟩))) ∧ w.cell? ⟨blk, off + i * 4 + 3, none⟩ = some (.float .f64 (floatAt (w.cell? ⟨blk, off + i * 4 + 3, none⟩))) := by
  obtain ⟨x0, x1, x2, x3, c0, _⟩ := hc 0 h0
  obtain ⟨blk, off, spot⟩ := a
  have hs : spot = none := by
    simp only [Nat.zero_mul, Addr.add, if_true] at c0
    exact spot_of c0
  subst hs
  refine ⟨blk, off, rfl, fun i hi => ?_⟩
  obtain ⟨x0, x1, x2, x3, c0, c1, c2, c3⟩ := hc i hi
  rw [add_at, add_at] at c0 c1 c2 c3
  have c0' : w.cell? ⟨blk, off + i * 4, none⟩ = some (.int .i64 x0) := c0
  have c1' : w.cell? ⟨blk, off + i * 4 + 1, none⟩ = some (.int .i64 x1) := c1
  have c2' : w.cell? ⟨blk, off + i * 4 + 2, none⟩ = some (.int .u64 x2) := c2
  have c3' : w.cell? ⟨blk, off + i * 4 + 3, none⟩ = some (.float .f64 x3) := c3
  rw [c0', c1', c2', c3']
  exact ⟨rfl, rfl, rfl, rfl⟩
set_option maxRecDepth 100000 in
theorem lifted (os : Os) (started : os.Started) (H : Type) (enc : TypeId × Value → H) :
    ReturnsInHanded {} Try.checked os 3 .any (Rows.noisePlaysSpec.pre6 enc Try.prog Try.f3 Rows.noisePlaysRow.domain false) (Rows.noisePlaysSpec.post enc Try.prog Try.f3 false true false false) := by
  refine returnsInHanded_of_change (C := Try.checked) ownK started (by kernel_rfl) Try.func3
    (ChangeSpec.witness6 (enc := enc) (C := Try.checked) false ⟨#[], #[.int .u64 0, .int .u64 0, .slice none 0 0], []⟩ 8 (by kernel_rfl) (by kernel_rfl) (by kernel_rfl) (by kernel_rfl)) ?_
  intro W base args ds gs before hval0 hW hcnd _
  have hval : ∀ (j : Nat) t v, Try.f3.params[j]? = some t → args[j]? = some v → Value.okWide Try.prog W .any base t v := hval0
  have hW' := hW
  obtain ⟨p, q, hA0, hV, rfl, hfz, hnd⟩ := hW
  have hA : DataW.TrodAll enc Try.prog W 0 (fun _ => true) true Try.f3.params.toList args.toList ds p := hA0
  rw [Try.params3] at hA hval
  obtain ⟨v0, vs0, d0, ds0, p0, q0, hargs, rfl, rfl, h0, r0⟩ := trodAll_cons hA
  obtain ⟨v1, vs1, d1, ds1, p1, q1, rfl, rfl, rfl, h1, r1⟩ := trodAll_cons r0
  obtain ⟨v2, vs2, d2, ds2, p2, q2, rfl, rfl, rfl, h2, r2⟩ := trodAll_cons r1
  obtain ⟨rfl, rfl, rfl⟩ := trodAll_nil r2
  obtain rfl : args = #[v0, v1, v2] := by cases args; simp_all
  obtain ⟨rfl, rfl⟩ := trodVars_none hV
  obtain ⟨a0, rfl, rfl, rfl, w0⟩ := open_int Try.underlying22 (hval 0 22 v0 rfl rfl) h0
  obtain ⟨a1, rfl, rfl, rfl, w1⟩ := open_int Try.underlying22 (hval 1 22 v1 rfl rfl) h1
  obtain ⟨ad, len, cap, rfl⟩ := okWide_slice Try.underlying23 (hval 2 23 v2 rfl rfl)
  clear hA0 hval0
  simp only [List.append_nil, List.nil_append] at hW'
  have hlt2 : ∀ x ∈ p2, x.block < W.heap.size := fun x hx => hW'.lt x (by simp [hx])
  have fin : ∀ e W', TU W e W' → ∃ v, e = Ending.returned v ∧ Rows.noisePlaysSpec.post enc Try.checked.prog Try.f3 false true false false W #[.int .u64 a0, .int .u64 a1, .slice ad len cap] v W' := by
    intro e W' ⟨he, hu⟩
    subst he
    have hn : RowKit.Below W.heap.size W W' := hu.out
    refine ⟨_, rfl, _, _, _, [], p2, [], hW', ?_, ?_, rfl, hn.frame _, fun h => by cases h⟩
    · exact trodAll_cons_mk (shut_bool Try.underlying4 _) trodAll_mk0
    · have ht2 := Below.trod laidOut (by kernel_rfl) (of_decide_eq_true (by kernel_rfl)) h2 hn hlt2
      have h3 := trodAll_cons_mk (shut_int Try.underlying22 w0) (trodAll_cons_mk (shut_int Try.underlying22 w1) (trodAll_cons_mk ht2 trodAll_mk0))
      simp only [List.append_nil, List.nil_append] at h3
      exact h3
  obtain ⟨fuel, hf⟩ := h2
  rcases Go.Deep.open_slice Try.underlying23 hf with ⟨hcs, hx⟩ | ⟨a, len', cap', m, n, D, Pl, hcs, hb, hl, hm, hmm, hx, hcell⟩
  · simp [Value.cells] at hcs
    obtain ⟨rfl, rfl, rfl⟩ := hcs
    exact (t3 a0 a1 none 0 0 0 0 (fun _ => 0) (fun _ => 0) (fun _ => 0) (fun _ => 0) W (fun h => by omega) (fun i hi => by omega) (by omega)).mono fun e W' h => fin e W' h
  · simp [Value.cells] at hcs
    obtain ⟨rfl, rfl, rfl⟩ := hcs
    simp only [if_true] at hmm
    unfold maxLen at hm
    rcases Nat.eq_zero_or_pos len with rfl | hp
    · exact (t3 a0 a1 (some a) 0 0 0 cap (fun _ => 0) (fun _ => 0) (fun _ => 0) (fun _ => 0) W (fun h => by omega) (fun i hi => by omega) (by omega)).mono fun e W' h => fin e W' h
    · obtain ⟨blk, off, rfl, hc⟩ := rows_in (w := W) (a := a) hp (fun i hi => by
        obtain ⟨cs', g1, g2⟩ := hcell i (by omega)
        rw [cells30] at g1
        exact one_of g1 g2)
      exact (t3 a0 a1 (some ⟨blk, off, none⟩) blk off len cap _ _ _ _ W (fun _ => rfl) hc (by omega)).mono fun e W' h => fin e W' h

theorem over : Rows.noisePlaysRow.holds Try.pinned (OpenSpec.ofChange Rows.noisePlaysSpec) :=
  OpenClaim.holds_of_wide 3 Try.f3 rfl rfl rfl rfl rfl rfl rfl ⟨rfl, rfl, rfl, rfl, rfl⟩ rfl rfl rfl rfl rfl (by kernel_rfl) Try.func3 (by kernel_rfl)
    (of_decide_eq_true (by kernel_rfl)) (by unfold Func.isWrapper; first | (rw [if_pos (by decide +kernel)]; kernel_rfl) | (rw [if_neg (by decide +kernel)]; exact ⟨rfl, rfl⟩))
    (fun os started H enc _ => lifted os started H enc)
end noisePlays

theorem noisePlays_holds : Rows.NoisePlaysSaid := noisePlays.over
#print axioms noisePlays_holds
end Go.Proofs.Ytcocliilapeelaa

/- A row of one's own gets one more. -/
import Derived.Test.YtcgbmcnefolgcaaHh
import Derived.Maps.AppendAt
namespace Go.Proofs.Ytcgbmcnefolgcaa
open Go.ChangeShapes Go.WideShapes Go.ChangeAt Go.RowKit Go.Fl Go.Sort

theorem wpList_push {α : Type} {enc : α → Value} {t ts te : TypeId} {z : Value} {bytes : Nat} (hinfo : (Try.prog.info? t).map (fun i => (i.zero, i.size, i.bytes)) = some (some z, 1, bytes)) (hz1 : z.cells.size = 1) (hby : bytes ≤ 64) (hu : Try.prog.underlying ts = some (.slice t))
    {ops : Array Oper} {rest : List Oper} {o : Oper} {a : Act} {Q : Exit → Act → World → Prop} (hgd : o.guard = none) (s x : Operand) (ho : o.op = .call { callee := .builtin .append, args := #[s, x], argTypes := #[ts, ts] })
    {w0 w : World} (p : Option Addr) (m c : Nat) (L : List α) (y : α) (hy : (enc y).oneCell' = true) (hs : a.eval s = .slice p m c) (hx : a.eval x = .slice (some ⟨w.heap.size, 0, none⟩) 1 1) (HO : OR enc t w0.heap.size w (.slice p m c) L) (hu0 : Up w0 w) (hm : L.length ≤ 2000000)
    (h : ∀ p' c' w', Hid (OR enc t w0.heap.size w' (.slice p' (m + 1) c') (L ++ [y])) → Hid (Up w0 w') → wpList Try.prog ops Q rest (a.put o.dst (.slice p' (m + 1) c')) w') : wpList Try.prog ops Q (o :: rest) a (w.alloc (.cells #[enc y] te)) := by
  obtain ⟨i0, hi, hz0, hz2, hz3⟩ := info_parts hinfo
  have hl := HO.len
  have hsz : w0.heap.size ≤ w.heap.size := RowKit.Below.size hu0
  have HO' : (w.alloc (.cells #[enc y] te)).ownsRow w0.heap.size t 1 (.slice p m c) L.length (L.map enc) := World.ownsRow.alloc HO _
  have hb : (L.length + 1) * bytes ≤ 140737488355328 := Nat.le_trans (Nat.mul_le_mul (show L.length + 1 ≤ 2000001 by omega) hby) (by decide)
  refine wpList_append_own_at _ hgd s x ts ho w0.heap.size t i0 z 1 bytes hu hi hz0 hz2 hz3 hz1 (by decide) _ _ _ hs HO' ⟨w.heap.size, 0, none⟩ 1 1 [enc y] hx rfl (one_new _ _ _) (one_cellV hy) (by unfold maxLen; omega) hb (by simp; omega) ?_
  intro v' w' h1 h2 _ _
  obtain ⟨p', c', hv, _⟩ := own_form h1
  rw [hl] at hv
  subst hv
  refine h p' c' w' ?_ ?_
  · show w'.ownsRow _ _ _ _ _ _
    rw [List.length_append, List.map_append]
    exact h1
  · have h3 : Up w0 (w.alloc (.cells #[enc y] te)) := hu0.al _
    exact RowKit.Below.grown h3 h2 (by simp; omega) (fun j hj => (HO.lt j hj).1)
theorem info3 : (Try.prog.info? 3).map (fun i => (i.zero, i.size, i.bytes)) = some (some (.int .i64 0), 1, 8) := by kernel_rfl
abbrev ie : Nat → Value := fun k => Value.int .i64 (k : Int)
end Go.Proofs.Ytcgbmcnefolgcaa

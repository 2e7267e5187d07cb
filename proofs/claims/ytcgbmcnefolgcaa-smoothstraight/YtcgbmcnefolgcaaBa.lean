/- Rows of floats: what a slice's cells hold, sums, rows of one's own. -/
import Derived.Test.YtcgbmcnefolgcaaAa
import Derived.Sort.Row
import Derived.Sort.LotA
import Derived.Deep.LoopGhost
import Derived.Deep.QuietTactic
import Derived.BigQuiet
import Derived.BigRegion
import Derived.WalkKit
import Derived.Deep.WholeRow
import Derived.Laws.CopyOwn
import Derived.Laws.Cover3
import Derived.Lib.AppendZeros
import Derived.Deep.Upon
import Derived.Deep.AppendLies
namespace Go.Proofs.Ytcgbmcnefolgcaa
open Go.ChangeShapes Go.WideShapes Go.ChangeAt Go.RowKit Go.Fl Go.Sort
attribute [local go_sem] run_store_float call22 call54 run_neg fold_eq fold_ne fold_lt fold_gt abs_eq

abbrev fe : Nat → Value := Value.float .f64
/-- Every float of the row is one of 64 bits. -/
def Fit (d : Array Nat) : Prop := ∀ i, i < d.size → d[i]! < 2 ^ 64
/-- The cells of a slice hold these floats. -/
def Reads (w : World) (blk off : Nat) (d : Array Nat) : Prop := ∀ j, j < d.size → w.cell? ⟨blk, off + j, none⟩ = some (fe d[j]!)
theorem Reads.lt {w : World} {blk off : Nat} {d : Array Nat} (h : Reads w blk off d) (hp : 0 < d.size) : blk < w.heap.size := by
  obtain ⟨c, e, fr, hb, _⟩ := cells_of_cell? (h 0 hp)
  exact (Array.getElem?_eq_some_iff.1 hb).1
theorem Reads.up {w w' : World} {blk off : Nat} {d : Array Nat} (h : Reads w blk off d) (hu : Up w w') : Reads w' blk off d := fun j hj => by
  rw [RowKit.Below.cell hu (h.lt (by omega))]; exact h j hj
theorem info23 : (Try.prog.info? 24).map (fun i => (i.zero, i.size, i.bytes)) = some (some (.float .f64 0), 1, 8) := by kernel_rfl
/-- A row of one's own: its cells can be written. -/
def Own (b : Nat) (w : World) (v : Value) (d : Array Nat) : Prop := ∃ g cap, v = .slice (some ⟨g, 0, none⟩) d.size cap ∧ b ≤ g ∧ (g < w.heap.size ∧ d.size ≤ cap) ∧ Holds fe w g 0 d
theorem own_of {b : Nat} {w : World} {v : Value} {d : Array Nat} (hp : 0 < d.size) (h : w.ownsRow b 24 1 v d.size (d.toList.map fe)) : Own b w v d := by
  obtain ⟨_, h⟩ := h
  rcases h with ⟨_, h0⟩ | ⟨g, cap, cur, rfl, hg, hc, hle, _, hs, ht⟩
  · omega
  · refine ⟨g, cap, rfl, hg, ⟨(Array.getElem?_eq_some_iff.1 hc).1, hle⟩, fun j hj => ?_⟩
    have e : cur[j]? = some (fe d[j]!) := by
      have := congrArg (fun l => l[j]?) ht
      simp only [List.getElem?_take] at this
      rw [if_pos (by omega)] at this
      rw [← Array.getElem?_toList, this]
      simp [getElem!_pos d j hj, Array.getElem?_eq_getElem hj]
    constructor
    · rw [cell_of_row _ _ _ _ _ _ hc, Nat.zero_add, e]
    · simp [World.frozen?, hc]
theorem reads_news {w : World} {blk off : Nat} {d : Array Nat} (h : Reads w blk off d) : ∀ j u, (d.toList.map fe)[j]? = some u → w.cell? ((⟨blk, off, none⟩ : Addr).add j) = some u := by
  intro j u hj
  rw [List.getElem?_map, Option.map_eq_some_iff] at hj
  obtain ⟨x, hx, rfl⟩ := hj
  rw [Array.getElem?_toList, Array.getElem?_eq_some_iff] at hx
  obtain ⟨hl, hx⟩ := hx
  have := h j hl
  rw [getElem!_pos d j hl, hx] at this
  rw [← this]
  unfold Addr.add
  split
  · rename_i h0; rw [h0]; rfl
  · rfl
theorem one_cells (l : List Nat) : ∀ u ∈ l.map fe, u.oneCell' = true := by
  intro u hu
  obtain ⟨x, _, rfl⟩ := List.mem_map.1 hu
  rfl
theorem own_reads {b : Nat} {w : World} {v : Value} {d : Array Nat} (h : Own b w v d) : ∃ g cap, v = .slice (some ⟨g, 0, none⟩) d.size cap ∧ b ≤ g ∧ d.size ≤ cap ∧ Reads w g 0 d := by
  obtain ⟨g, cap, hv, hb, hl, hH⟩ := h
  exact ⟨g, cap, hv, hb, hl.2, fun j hj => (hH j hj).1⟩
/-- The sum of n numbers, the first alone. -/
def sumN (F : Nat → Option Nat) : Nat → Option Nat
  | 0 => ab 0
  | 1 => F 0
  | n + 2 => bin .add (sumN F (n + 1)) (F (n + 1))
theorem sumN_step (F : Nat → Option Nat) (k : Nat) : sumN F (k + 1 + 1) = bin .add (sumN F (k + 1)) (F (k + 1)) := rfl
theorem sumN_congr {F G : Nat → Option Nat} : ∀ n, (∀ i, i < n → F i = G i) → sumN F n = sumN G n
  | 0, _ => rfl
  | 1, h => h 0 (by omega)
  | n + 2, h => by rw [sumN, sumN, sumN_congr (n + 1) fun i hi => h i (by omega), h (n + 1) (by omega)]
/-- The sum of a row. -/
def sumD (d : Array Nat) : Option Nat := sumN (fun i => ab d[i]!) d.size
theorem box_cell (w : World) (v : Value) (t : TypeId) (k : Nat) : ((w.alloc (.cells #[v] t)).drewN k).cell? ⟨w.heap.size, 0, none⟩ = some v := World.cell?_alloc_at _ _ _ _ rfl
/-- A slice that holds these floats. -/
structure SV (w : World) (p : Option Addr) (n cap : Nat) (d : Array Nat) : Prop where
  len : d.size = n
  cap : n ≤ cap
  fit : Fit d
  rd : 0 < n → ∃ b o, p = some ⟨b, o, none⟩ ∧ Reads w b o d
theorem SV.up {w w' : World} {p : Option Addr} {n cap : Nat} {d : Array Nat} (h : SV w p n cap d) (hu : Up w w') : SV w' p n cap d :=
  ⟨h.len, h.cap, h.fit, fun hp => by obtain ⟨b, o, e, r⟩ := h.rd hp; exact ⟨b, o, e, r.up hu⟩⟩
theorem app_sv {w : World} {base m c ty : Nat} {p q : Option Addr} {n cq : Nat} {O : List Nat} {d : Array Nat} (hown : w.ownsRow base 24 1 (.slice p m c) m (O.map fe)) (hv : SV w q n cq d) (hmn : m + n ≤ 4000000) (hbase : base ≤ w.heap.size) :
    ∃ p' c' w', (Builtin.append_ #[23, 23] ty #[.slice p m c, .slice q n cq]).run Try.prog w = .ok (.slice p' (m + n) c') w' ∧ w'.ownsRow base 24 1 (.slice p' (m + n) c') (m + n) ((O ++ d.toList).map fe) ∧ w.grownBy w' (Value.slice p m c).ownBlock := by
  obtain ⟨i0, hi, hz0, hz1, hz2⟩ := info_parts info23
  have hmc : m ≤ c := by
    rcases hown.2 with ⟨e, h0⟩ | ⟨g, c0, cur, e, _, _, h4, _⟩
    · simp only [Value.slice.injEq] at e; omega
    · simp only [Value.slice.injEq] at e; omega
  rcases Nat.eq_zero_or_pos n with rfl | hp
  · have hd : d.toList = [] := by have := hv.len; simpa using this
    refine ⟨p, c, w, ?_, ?_, World.grownBy.refl _ _⟩
    · refine run_append_nothing w 23 23 ty 24 i0 Try.underlying23 hi _ m c hmc _ ?_
      cases q with
      | none => exact Src.ofNil w Try.underlying23 cq
      | some a => exact Src.ofSlice w Try.underlying23 a 0 cq [] (by simp) (fun j u h => by simp at h) (fun u h => by cases h)
    · rw [hd, List.append_nil]; exact hown
  · obtain ⟨b, o, rfl, hr⟩ := hv.rd hp
    obtain ⟨g, cap, w', h1, h2, h3, h4, _⟩ := run_append_lies (P := Try.prog) w 23 ty base 24 i0 (.float .f64 0) 1 8 Try.underlying23 hi hz0 hz1 hz2 rfl (by omega) (.slice p m c) m (O.map fe) hown ⟨b, o, none⟩ n cq (d.toList.map fe) (by simp [hv.len]) (reads_news hr) (one_cells _) hp (by unfold maxLen; omega) (by omega) hbase w.heap.size rfl
    exact ⟨_, cap, w', h1, by rw [List.map_append]; exact h2, h3⟩
theorem wpList_app_sv {ops : Array Oper} {rest : List Oper} {o : Oper} {a : Act} {w : World} {Q : Exit → Act → World → Prop} (hgd : o.guard = none) (s x : Operand)
    (ho : o.op = .call { callee := .builtin .append, args := #[s, x], argTypes := #[23, 23] })
    (base m c : Nat) (p q : Option Addr) (n cq : Nat) (O : List Nat) (d : Array Nat) (hs : a.eval s = .slice p m c) (hx : a.eval x = .slice q n cq) (hown : w.ownsRow base 24 1 (.slice p m c) m (O.map fe)) (hv : SV w q n cq d) (hmn : m + n ≤ 4000000) (hbase : base ≤ w.heap.size)
    (h : ∀ p' c' w', w'.ownsRow base 24 1 (.slice p' (m + n) c') (m + n) ((O ++ d.toList).map fe) → w.grownBy w' (Value.slice p m c).ownBlock → wpList Try.prog ops Q rest (a.put o.dst (.slice p' (m + n) c')) w') : wpList Try.prog ops Q (o :: rest) a w := by
  refine wpList_plain hgd fun K hK => ?_
  obtain ⟨p', c', w', h1, h2, h3⟩ := app_sv (ty := o.type) hown hv hmn hbase
  unfold Oper.wp execOp
  simp only [ho, resolve, invoke, builtin, Sem.run_bind, Sem.run_pure, Result.andThen_ok, List.map_toArray, List.map_cons, List.map_nil, hs, hx, h1]
  exact hK _ _ (h p' c' w' h2 h3)
/-- A row of one's own can be read. -/
theorem sv_own {b : Nat} {w : World} {p : Option Addr} {n cap : Nat} {d : Array Nat} (h : w.ownsRow b 24 1 (.slice p n cap) n (d.toList.map fe)) (hl : d.size = n) (hF : Fit d) : SV w p n cap d := by
  refine ⟨hl, ?_, hF, fun hp => ?_⟩
  · rcases h.2 with ⟨e, h0⟩ | ⟨g, c0, cur, e, _, _, h4, _⟩
    · simp only [Value.slice.injEq] at e; omega
    · simp only [Value.slice.injEq] at e; omega
  · subst hl
    obtain ⟨g, c, e, _, _, r⟩ := own_reads (own_of hp h)
    simp only [Value.slice.injEq] at e
    exact ⟨g, 0, e.1, r⟩
theorem fit_app {a b : Array Nat} (ha : Fit a) (hb : Fit b) : Fit (a ++ b) := by
  intro i hi
  have hi' : i < a.size + b.size := by simpa using hi
  rw [getElem!_pos _ i hi, Array.getElem_append]
  split
  · rename_i h; have := ha i h; rwa [getElem!_pos a i h] at this
  · rename_i h; have := hb (i - a.size) (by omega); rwa [getElem!_pos b _ (by omega)] at this
theorem cell_up {w w' : World} {b k : Nat} {v : Value} (h : w.cell? ⟨b, k, none⟩ = some v) (hu : Up w w') : w'.cell? ⟨b, k, none⟩ = some v := by
  obtain ⟨c, e, fr, hb, _⟩ := cells_of_cell? h
  rw [RowKit.Below.cell hu (Array.getElem?_eq_some_iff.1 hb).1]; exact h
theorem grown_up {w0 w w' : World} {row : Option Nat} (hu : Up w0 w) (hg : w.grownBy w' row) (hb : ∀ j, row = some j → w0.heap.size ≤ j) : Up w0 w' := RowKit.Below.grown hu hg (RowKit.Below.size hu) hb
/-- What a call leaves that hands back a row of floats. -/
def RV (w : World) (n : Nat) (d : Array Nat) (e : Ending) (w' : World) : Prop := ∃ p c, e = .returned (.slice p n c) ∧ Hid (SV w' p n c d) ∧ Hid (Up w w')
theorem t45e (p : Option Addr) (cap : Nat) (w : World) : Calls Try.prog 45 #[.slice p 0 cap] w (FR w (ab 0)) := by
  go_enter Try.func45, Try.ntmps45
  go_wp2
  go_ret
  exact FR.mk0 rfl
set_option maxHeartbeats 1000000 in
theorem t45 (blk off cap : Nat) (d : Array Nat) (w : World) (hR : Reads w blk off d) (hp : 0 < d.size) (hn : d.size < 4611686018427387904) : Calls Try.prog 45 #[.slice (some ⟨blk, off, none⟩) d.size cap] w (FR w (sumD d)) := by
  have HR : Hid (Reads w blk off d) := hR
  obtain ⟨x, hx⟩ : ∃ x, d[0]! = x := ⟨_, rfl⟩
  have c0 := hR 0 hp
  rw [hx, Nat.add_zero] at c0
  have HX : Hid _ := hx
  clear hR hx
  have h0 : ((d.size : Int) == 0) = false := by rw [beq_eq_false_iff_ne]; omega
  have h1 : (0 : Int) < (d.size : Int) := by omega
  have h2 : ¬ d.size = 0 := by omega
  go_enter Try.func45, Try.ntmps45
  go_wp2
  go_loopw [3, 4] (fun vs vi wr => ∃ i r k : Nat, i < d.size ∧ vs = .float .f64 r ∧ vi = .int .i64 ((i : Int) + 1) ∧ wr = w.drewN k ∧ Hid (ab r = sumN (fun i => ab d[i]!) (i + 1))) (fun _ vi _ => (d.size : Int).toNat - (intOf vi).toNat)
  case atStart => exact ⟨0, x, 0, hp, rfl, rfl, rfl, by show _ = _; rw [← HX.out]; rfl⟩
  case round =>
    obtain ⟨i, r, k, hi, rfl, rfl, rfl, hr⟩ := hrel
    by_cases hlt : i + 1 < d.size
    · obtain ⟨y, hy⟩ : ∃ y, d[i + 1]! = y := ⟨_, rfl⟩
      have cy := HR.out (i + 1) hlt
      rw [hy] at cy
      have cy2 : (w.drewN k).cell? ⟨blk, off + (i + 1), none⟩ = some (.float .f64 y) := cy
      have HY : Hid _ := hy
      clear hy cy
      have hz : (i : Int) + 1 < (d.size : Int) := by omega
      have p0 : (0 : Int) ≤ (i : Int) + 1 := by omega
      have e0 : ((i : Int) + 1).toNat = i + 1 := by omega
      go_wp2_with ((with_reducible refine upon_fl (by simp) ?_); intro r3 k3 hr3)
      go_roundw
      case rel =>
        refine ⟨i + 1, r3, _, by omega, rfl, by go_num, by first | rfl | (simp only [World.drewN_drewN]; rfl), ?_⟩
        show _ = _
        rw [sumN_step, ← hr.out, HY.out, ← hr3.out]
      case measure => simp [intOf]; omega
    · have he : i + 1 = d.size := by omega
      have hz : ¬ (i : Int) + 1 < (d.size : Int) := by omega
      have HE : Hid _ := he
      clear he
      go_wp2
      go_ret
      refine FR.mkN ?_
      rw [hr.out, HE.out]; rfl
end Go.Proofs.Ytcgbmcnefolgcaa

/- Lists of floats that are handed in, copied with a mark behind them. -/
import Derived.Test.YtjnggbpifclpcaaIe
import Derived.Deep.AppendLies
import Derived.Lib.AppendZeros
import Derived.Laws.Cover3
import Derived.Sort.Row
import Derived.Sort.LotA
import Derived.Deep.Upon
import Derived.BigQuiet
import Derived.Deep.QuietTactic
namespace Go.Proofs.Ytjnggbpifclpcaa
open Go.Sort Go.ChangeShapes Go.WideShapes Go.ChangeAt Go.RowKit Go.Fl Ieee
attribute [local go_sem] run_store_float run_store_complex call34 call33 run_neg fold_eq fold_ne fold_lt fold_gt abs_eq

def Fit (d : Array Nat) : Prop := ∀ i, i < d.size → d[i]! < 2 ^ 64
theorem info23 : (Try.prog.info? 22).map (fun i => (i.zero, i.size, i.bytes)) = some (some (.float .f64 0), 1, 8) := by kernel_rfl
/-- A row of one's own: its cells can be written. -/
def Own (b : Nat) (w : World) (v : Value) (d : Array Nat) : Prop := ∃ g cap, v = .slice (some ⟨g, 0, none⟩) d.size cap ∧ b ≤ g ∧ (g < w.heap.size ∧ d.size ≤ cap) ∧ Holds fe w g 0 d
theorem own_of {b : Nat} {w : World} {v : Value} {d : Array Nat} (hp : 0 < d.size) (h : w.ownsRow b 22 1 v d.size (d.toList.map fe)) : Own b w v d := by
  obtain ⟨_, h⟩ := h
  rcases h with ⟨_, h0⟩ | ⟨g, cap, cur, rfl, hg, hc, hle, _, hs, ht⟩
  · omega
  · refine ⟨g, cap, rfl, hg, ⟨(Array.getElem?_eq_some_iff.1 hc).1, hle⟩, fun j hj => ?_⟩
    have e : cur[j]? = some (fe d[j]!) := by
      have := congrArg (fun l => l[j]?) ht
      simp only [List.getElem?_take] at this
      rw [if_pos (by omega)] at this
      rw [← Array.getElem?_toList, this]
      simp [getElem!_pos d j hj, Array.getElem?_eq_getElem hj]
    constructor
    · rw [cell_of_row _ _ _ _ _ _ hc, Nat.zero_add, e]
    · simp [World.frozen?, hc]
theorem reads_news {w : World} {blk off : Nat} {d : Array Nat} (h : Reads w blk off d) : ∀ j u, (d.toList.map fe)[j]? = some u → w.cell? ((⟨blk, off, none⟩ : Addr).add j) = some u := by
  intro j u hj
  rw [List.getElem?_map, Option.map_eq_some_iff] at hj
  obtain ⟨x, hx, rfl⟩ := hj
  rw [Array.getElem?_toList, Array.getElem?_eq_some_iff] at hx
  obtain ⟨hl, hx⟩ := hx
  have := h j hl
  rw [getElem!_pos d j hl, hx] at this
  rw [← this]
  unfold Addr.add
  split
  · rename_i h0; rw [h0]; rfl
  · rfl
theorem one_cells (l : List Nat) : ∀ u ∈ l.map fe, u.oneCell' = true := by
  intro u hu
  obtain ⟨x, _, rfl⟩ := List.mem_map.1 hu
  rfl
theorem own_reads {b : Nat} {w : World} {v : Value} {d : Array Nat} (h : Own b w v d) : ∃ g cap, v = .slice (some ⟨g, 0, none⟩) d.size cap ∧ b ≤ g ∧ d.size ≤ cap ∧ Reads w g 0 d := by
  obtain ⟨g, cap, hv, hb, hl, hH⟩ := h
  exact ⟨g, cap, hv, hb, hl.2, fun j hj => (hH j hj).1⟩
structure SV (w : World) (p : Option Addr) (n cap : Nat) (d : Array Nat) : Prop where
  len : d.size = n
  cap : n ≤ cap
  fit : Fit d
  rd : 0 < n → ∃ b o, p = some ⟨b, o, none⟩ ∧ Reads w b o d
theorem SV.up {w w' : World} {p : Option Addr} {n cap : Nat} {d : Array Nat} (h : SV w p n cap d) (hu : Up w w') : SV w' p n cap d :=
  ⟨h.len, h.cap, h.fit, fun hp => by obtain ⟨b, o, e, r⟩ := h.rd hp; exact ⟨b, o, e, r.up hu⟩⟩
theorem app_sv {w : World} {base m c ty : Nat} {p q : Option Addr} {n cq : Nat} {O : List Nat} {d : Array Nat} (hown : w.ownsRow base 22 1 (.slice p m c) m (O.map fe)) (hv : SV w q n cq d) (hmn : m + n ≤ 4000000) (hbase : base ≤ w.heap.size) :
    ∃ p' c' w', (Builtin.append_ #[33, 33] ty #[.slice p m c, .slice q n cq]).run Try.prog w = .ok (.slice p' (m + n) c') w' ∧ w'.ownsRow base 22 1 (.slice p' (m + n) c') (m + n) ((O ++ d.toList).map fe) ∧ w.grownBy w' (Value.slice p m c).ownBlock := by
  obtain ⟨i0, hi, hz0, hz1, hz2⟩ := info_parts info23
  have hmc : m ≤ c := by
    rcases hown.2 with ⟨e, h0⟩ | ⟨g, c0, cur, e, _, _, h4, _⟩
    · simp only [Value.slice.injEq] at e; omega
    · simp only [Value.slice.injEq] at e; omega
  rcases Nat.eq_zero_or_pos n with rfl | hp
  · have hd : d.toList = [] := by have := hv.len; simpa using this
    refine ⟨p, c, w, ?_, ?_, World.grownBy.refl _ _⟩
    · refine run_append_nothing w 33 33 ty 22 i0 Try.underlying33 hi _ m c hmc _ ?_
      cases q with
      | none => exact Src.ofNil w Try.underlying33 cq
      | some a => exact Src.ofSlice w Try.underlying33 a 0 cq [] (by simp) (fun j u h => by simp at h) (fun u h => by cases h)
    · rw [hd, List.append_nil]; exact hown
  · obtain ⟨b, o, rfl, hr⟩ := hv.rd hp
    obtain ⟨g, cap, w', h1, h2, h3, h4, _⟩ := run_append_lies (P := Try.prog) w 33 ty base 22 i0 (.float .f64 0) 1 8 Try.underlying33 hi hz0 hz1 hz2 rfl (by omega) (.slice p m c) m (O.map fe) hown ⟨b, o, none⟩ n cq (d.toList.map fe) (by simp [hv.len]) (reads_news hr) (one_cells _) hp (by unfold maxLen; omega) (by omega) hbase w.heap.size rfl
    exact ⟨_, cap, w', h1, by rw [List.map_append]; exact h2, h3⟩
theorem wpList_app_sv {ops : Array Oper} {rest : List Oper} {o : Oper} {a : Act} {w : World} {Q : Exit → Act → World → Prop} (hgd : o.guard = none) (s x : Operand)
    (ho : o.op = .call { callee := .builtin .append, args := #[s, x], argTypes := #[33, 33] })
    (base m c : Nat) (p q : Option Addr) (n cq : Nat) (O : List Nat) (d : Array Nat) (hs : a.eval s = .slice p m c) (hx : a.eval x = .slice q n cq) (hown : w.ownsRow base 22 1 (.slice p m c) m (O.map fe)) (hv : SV w q n cq d) (hmn : m + n ≤ 4000000) (hbase : base ≤ w.heap.size)
    (h : ∀ p' c' w', w'.ownsRow base 22 1 (.slice p' (m + n) c') (m + n) ((O ++ d.toList).map fe) → w.grownBy w' (Value.slice p m c).ownBlock → wpList Try.prog ops Q rest (a.put o.dst (.slice p' (m + n) c')) w') : wpList Try.prog ops Q (o :: rest) a w := by
  refine wpList_plain hgd fun K hK => ?_
  obtain ⟨p', c', w', h1, h2, h3⟩ := app_sv (ty := o.type) hown hv hmn hbase
  unfold Oper.wp execOp
  simp only [ho, resolve, invoke, builtin, Sem.run_bind, Sem.run_pure, Result.andThen_ok, List.map_toArray, List.map_cons, List.map_nil, hs, hx, h1]
  exact hK _ _ (h p' c' w' h2 h3)
/-- A row of one's own can be read. -/
theorem sv_own {b : Nat} {w : World} {p : Option Addr} {n cap : Nat} {d : Array Nat} (h : w.ownsRow b 22 1 (.slice p n cap) n (d.toList.map fe)) (hl : d.size = n) (hF : Fit d) : SV w p n cap d := by
  refine ⟨hl, ?_, hF, fun hp => ?_⟩
  · rcases h.2 with ⟨e, h0⟩ | ⟨g, c0, cur, e, _, _, h4, _⟩
    · simp only [Value.slice.injEq] at e; omega
    · simp only [Value.slice.injEq] at e; omega
  · subst hl
    obtain ⟨g, c, e, _, _, r⟩ := own_reads (own_of hp h)
    simp only [Value.slice.injEq] at e
    exact ⟨g, 0, e.1, r⟩
theorem fit_app {a b : Array Nat} (ha : Fit a) (hb : Fit b) : Fit (a ++ b) := by
  intro i hi
  have hi' : i < a.size + b.size := by simpa using hi
  rw [getElem!_pos _ i hi, Array.getElem_append]
  split
  · rename_i h; have := ha i h; rwa [getElem!_pos a i h] at this
  · rename_i h; have := hb (i - a.size) (by omega); rwa [getElem!_pos b _ (by omega)] at this
theorem grown_up {w0 w w' : World} {row : Option Nat} (hu : Up w0 w) (hg : w.grownBy w' row) (hb : ∀ j, row = some j → w0.heap.size ≤ j) : Up w0 w' := RowKit.Below.grown hu hg (RowKit.Below.size hu) hb
theorem fit_of {L : List Nat} (h : (L.all fun x => decide (x < 2 ^ 64)) = true) : Fit L.toArray := by
  intro i hi
  rw [getElem!_pos _ i hi]
  have := List.all_eq_true.1 h L.toArray[i] (by simp)
  simpa using this
/-- A list of floats that is written out. -/
theorem sv_new (w : World) (L : List Nat) (hF : (L.all fun x => decide (x < 2 ^ 64)) = true) (n : Nat) (hn : L.length = n) : SV (w.alloc (.cells (L.map fe).toArray 22)) (some ⟨w.heap.size, 0, none⟩) n n L.toArray := by
  refine ⟨by simpa using hn, Nat.le_refl _, fit_of hF, fun h0 => ⟨w.heap.size, 0, rfl, fun j hj => ?_⟩⟩
  rw [Nat.zero_add, World.cell?_alloc_at _ _ _ _ rfl]
  have hj' : j < L.length := by simpa using hj
  simp [hj']
theorem t32k {x y : Nat} (h : ab x = ab y) (w : World) : Calls Try.prog 32 #[.float .f64 x, .float .f64 y] w fun e w' => e = .returned (.bool true) ∧ w' = w := by
  have := t32 x y w
  rwa [h, beq_self_eq_true] at this
theorem t13 {w : World} {pa pb : Option Addr} {n ca cb : Nat} {d : Array Nat} (ha : SV w pa n ca d) (hb : SV w pb n cb d) (hn : n ≤ 1048576) : Calls Try.prog 13 #[.slice pa n ca, .slice pb n cb] w fun e w' => e = .returned (.bool true) ∧ ∃ m, w' = w.drewN m := by
  have HA : Hid (SV w pa n ca d) := ha
  have HB : Hid (SV w pb n cb d) := hb
  have z0 : (n : Int) ≤ 1048576 := by omega
  clear ha hb
  go_enter Try.func13, Try.ntmps13
  go_wp2
  go_loopw [5, 6] (fun vi _ wr => ∃ i m : Nat, i ≤ n ∧ vi = .int .i64 i ∧ wr = w.drewN m) (fun vi _ _ => n - (intOf vi).toNat)
  case atStart => exact ⟨0, 0, by omega, rfl, rfl⟩
  case round =>
    obtain ⟨i, m, hi, rfl, hw⟩ := hrel
    rename World => wr
    have HU : Hid (Up w wr) := by rw [hw]; exact Up.drewN _ _
    have HW : Hid (wr = w.drewN m) := hw
    clear hw
    by_cases hlt : i < n
    · obtain ⟨b1, o1, e1, r1⟩ := HA.out.rd (by omega)
      obtain ⟨b2, o2, e2, r2⟩ := HB.out.rd (by omega)
      subst e1
      subst e2
      have c1 := cell_up (r1 i (by rw [HA.out.len]; exact hlt)) HU.out
      have c2 := cell_up (r2 i (by rw [HA.out.len]; exact hlt)) HU.out
      generalize d[i]! = x at c1 c2
      have z1 : (i : Int) < (n : Int) := by omega
      have z2 : (0 : Int) ≤ (i : Int) := by omega
      clear r1 r2
      go_wp2_with fail
      go_quiet (first | (go_at_call 32; (with_reducible refine Calls.quiet_of_same (t32k rfl _))))
      go_wp2
      go_roundw
      case rel => exact ⟨i + 1, _, by omega, by go_num, by rw [HW.out, World.drewN_drewN]⟩
      case measure => simp [intOf]; omega
    · obtain rfl : i = n := by omega
      go_wp2
      go_ret
      exact ⟨rfl, m, HW.out⟩
/-- A copy with spare room that is marked. -/
def OW (b : Nat) (w : World) (g n cap : Nat) (d : Array Nat) : Prop := w.ownsRow b 22 1 (.slice (some ⟨g, 0, none⟩) (n + 1) cap) (n + 1) ((d ++ #[4635118810238550016]).toList.map fe)
theorem OW.up {b : Nat} {w w' : World} {g n cap : Nat} {d : Array Nat} (h : OW b w g n cap d) (hu : Up w w') : OW b w' g n cap d := owns_up h hu
theorem OW.lt {b : Nat} {w : World} {g n cap : Nat} {d : Array Nat} (h : OW b w g n cap d) : b ≤ g ∧ g < w.heap.size := World.ownsRow.lt h g rfl
theorem one_fit : Fit #[4635118810238550016] := fit_of (L := [4635118810238550016]) (by decide +kernel)
theorem OW.all {b : Nat} {w : World} {g n cap : Nat} {d : Array Nat} (h : OW b w g n cap d) (hl : d.size = n) (hF : Fit d) : SV w (some ⟨g, 0, none⟩) (n + 1) cap (d ++ #[4635118810238550016]) :=
  sv_own h (by simp [hl]) (fit_app hF one_fit)
theorem OW.sv {b : Nat} {w : World} {g n cap : Nat} {d : Array Nat} (h : OW b w g n cap d) (hl : d.size = n) (hF : Fit d) : SV w (some ⟨g, 0, none⟩) n cap d ∧ n + 1 ≤ cap := by
  have k := h.all hl hF
  have hc := k.cap
  obtain ⟨b', o, e, r⟩ := k.rd (by omega)
  refine ⟨⟨hl, by omega, hF, fun _ => ⟨b', o, e, fun j hj => ?_⟩⟩, hc⟩
  have := r j (by simp; omega)
  rw [this, getElem!_pos d j hj, getElem!_pos _ j (by simp; omega), Array.getElem_append_left hj]
theorem OW.mark {b : Nat} {w : World} {g n cap : Nat} {d : Array Nat} (h : OW b w g n cap d) (hl : d.size = n) (hF : Fit d) : w.cell? ⟨g, n, none⟩ = some (.float .f64 4635118810238550016) := by
  obtain ⟨b', o, e, r⟩ := (h.all hl hF).rd (by omega)
  simp only [Option.some.injEq, Addr.mk.injEq] at e
  obtain ⟨rfl, rfl, _⟩ := e
  have r0 := r n (by simp; omega)
  rw [Nat.zero_add, getElem!_pos _ n (by simp; omega), Array.getElem_append_right (by omega)] at r0
  rw [r0]; simp [hl]
theorem sv_mark (w : World) : SV (w.alloc (.cells #[.float .f64 4635118810238550016] 22)) (some ⟨w.heap.size, 0, none⟩) 1 1 #[4635118810238550016] := sv_new w [4635118810238550016] (by decide +kernel) 1 rfl
theorem eq77 : eqF (ab 4635118810238550016) (ab 4635118810238550016) = true := by decide +kernel
theorem SV.fv {w : World} {p : Option Addr} {n c : Nat} {d : Array Nat} (h : SV w p n c d) : FV w p n d := ⟨h.len, h.rd⟩
set_option maxHeartbeats 2000000 in
set_option maxRecDepth 20000 in
theorem t11 {w : World} {p : Option Addr} {m c x : Nat} {n : Int} {d : Array Nat} (h : FV w p m d) : Calls Try.prog 11 #[.int .i64 n, .float .f64 x, .slice p m c] w (QL w (nullL n (ab x) d) (nullE n (ab x) d)) := by
  have hl := h.len
  by_cases h1 : n ≤ d.size
  · rw [nullL, nullE, if_pos h1, if_pos h1]
    rw [hl] at h1
    go_enter Try.func11, Try.ntmps11
    go_wp2
    go_ret2
    exact QL.none _ _
  · by_cases h2 : n > 64
    · rw [nullL, nullE, if_neg h1, if_neg h1, if_pos h2, if_pos h2]
      rw [hl] at h1
      go_enter Try.func11, Try.ntmps11
      go_wp2
      go_ret2
      exact QL.none _ _
    · obtain ⟨N, rfl⟩ := Int.eq_ofNat_of_zero_le (show 0 ≤ n by omega)
      rw [nullL, nullE, if_neg h1, if_neg h1, if_neg h2, if_neg h2]
      rw [hl] at h1 ⊢
      cases hf : fin (ab x) && finL d with
      | false => exact t11f h (by omega) (by omega) hf
      | true => exact t11ok h (by omega) (by omega) hf
theorem nullL_len (n : Int) (s : Option Nat) (d : Array Nat) : (nullL n s d).length < 1000000 := by
  unfold nullL
  by_cases h1 : n ≤ d.size
  · rw [if_pos h1]; simp
  · rw [if_neg h1]
    by_cases h2 : n > 64
    · rw [if_pos h2]; simp
    · rw [if_neg h2]
      split
      · simp; omega
      · simp
end Go.Proofs.Ytjnggbpifclpcaa

/- Middle. -/
import Derived.Test.YtgalgnopjcpocaaZ
namespace Go.Proofs.Ytgalgnopjcpocaa
open Go.ChangeShapes Go.WideShapes Go.ChangeAt Go.RowKit Go.Fl Ieee
attribute [local go_sem] run_store_float run_store_c isSome_set call20 call33 run_neg fold_eq fold_ne fold_lt fold_gt abs_eq

theorem CRow.heap {b g n : Nat} {w : World} {d : List (Nat × Nat)} (h : CRow b w (.slice (some ⟨g, 0, none⟩) n n) d) : w.heap[g]? = some (.cells (d.map ce).toArray 53 (0, 0)) := by
  have hl := h.len
  obtain ⟨h1, h2⟩ := h
  rcases h2 with ⟨h2, _⟩ | ⟨g0, cap0, cur, e, k2, k3, k4, k5, k6, k7⟩
  · cases h2
  · simp only [Value.slice.injEq, Option.some.injEq, Addr.mk.injEq] at e
    obtain ⟨⟨rfl, _⟩, e2, rfl⟩ := e
    rw [k3]
    congr 2
    apply Array.ext'
    rw [← k7, List.take_of_length_le]
    simp; omega
theorem CRow.of_heap {b g n : Nat} {w : World} {d : List (Nat × Nat)} (hl : d.length = n) (hb : b ≤ g) (hn : n ≤ 100000) (h : w.heap[g]? = some (.cells (d.map ce).toArray 53 (0, 0))) : CRow b w (.slice (some ⟨g, 0, none⟩) n n) d := by
  subst hl
  refine ⟨by simp, Or.inr ⟨g, _, _, rfl, hb, h, Nat.le_refl _, by unfold maxLen; omega, by simp, ?_⟩⟩
  rw [List.take_of_length_le (by simp)]
theorem splice2 {α : Type} (Z X Y : List α) (k : Nat) (hk : X.length = k) (hZ : Z.length = k + Y.length) : splice (splice Z 0 X) k Y = X ++ Y := by
  subst hk
  simp [splice]
  omega
/-- What a slice's stretch holds. -/
def cut (f : Nat → Nat × Nat) (o k : Nat) : List (Nat × Nat) := (List.range k).map fun i => f (o + i)
theorem cut_len (f : Nat → Nat × Nat) (o k : Nat) : (cut f o k).length = k := by simp [cut]
/-- A list whose second half stands ahead of its first. -/
def midL (n : Nat) (f : Nat → Nat × Nat) : List (Nat × Nat) := cut f ((n + 1) / 2) (n - (n + 1) / 2) ++ cut f 0 ((n + 1) / 2)
def ML (w : World) (L : List (Nat × Nat)) (e : Ending) (w' : World) : Prop := ∃ v, e = .returned v ∧ Hid (CRow w.heap.size w' v L) ∧ Hid (Up w w')
set_option maxRecDepth 20000 in
theorem sz26 : (Try.prog.info? 53).map (·.size) = some 1 := by kernel_rfl
theorem ce_one {l : List (Nat × Nat)} : ∀ v ∈ l.map ce, v.oneCell' = true := by
  intro v hv
  obtain ⟨p, _, rfl⟩ := List.mem_map.1 hv
  rfl
theorem src_ok {w : World} {lg lo n o k : Nat} {f : Nat → Nat × Nat} (hR : RD w lg lo n f) (hk : o + k ≤ n) : ∀ j v, ((cut f o k).map ce)[j]? = some v → w.cell? ((⟨lg, lo + o, none⟩ : Addr).add j) = some v := by
  intro j v hv
  unfold cut at hv
  have hj : j < k := by
    have := List.getElem?_eq_some_iff.1 hv
    obtain ⟨h, _⟩ := this
    simpa using h
  rw [List.getElem?_map, List.getElem?_map, List.getElem?_range hj] at hv
  simp only [Option.map_some, Option.some.injEq] at hv
  rw [← hv]
  have := hR (o + j) (by omega)
  rw [← Nat.add_assoc] at this
  by_cases e : j = 0
  · subst e; exact this
  · simpa [Addr.add, e] using this
set_option maxRecDepth 20000 in
theorem upon_copy {o : Oper} {a : Act} {next : Act → World → Prop} {Q : Exit → Act → World → Prop} {w : World} {F : Value → World → Result Next} {g off dLen dCap lg lo' lo n s sLen sCap : Nat} {cur : List (Nat × Nat)} {f : Nat → Nat × Nat}
    (hg : Hid (w.heap[g]? = some (.cells (cur.map ce).toArray 53 (0, 0)))) (hR : Hid (RD w lg lo n f)) (ho : lo' = lo + s) (hk : s + sLen ≤ n) (hle : sLen ≤ dLen) (hfit : off + sLen ≤ cur.length)
    (h : ∀ w', Hid (w'.heap[g]? = some (.cells ((splice cur off (cut f s sLen)).map ce).toArray 53 (0, 0))) → Hid (But g w w') → o.upon Try.prog a next Q (F (.int .i64 sLen) w')) :
    o.upon Try.prog a next Q (((Builtin.copy_ #[54, 54] 3 #[.slice (some ⟨g, off, none⟩) dLen dCap, .slice (some ⟨lg, lo', none⟩) sLen sCap]).run Try.prog w).andThen F) := by
  subst ho
  have hl : ((cut f s sLen).map ce).length = sLen := by rw [List.length_map, cut_len]
  have e := run_copy_row (P := Try.prog) w 54 54 3 53 g off dLen dCap ⟨lg, lo + s, none⟩ sLen sCap (cur.map ce).toArray 53 ((cut f s sLen).map ce) Try.underlying54 sz26 hg.out (by rw [hl]; exact (Nat.min_eq_left hle).symm) (src_ok hR.out hk) (by rw [hl]; simpa using hfit) ce_one
  rw [e, hl]
  refine h _ ?_ ⟨rfl, rfl, rfl, by simp [World.setRow], fun k _ hne => setRow_other _ _ _ _ (by simpa using hne)⟩
  show _ = _
  rw [setRow_heap _ _ _ _ _ _ hg.out]
  congr 3
  simp [splice, cut_len]
end Go.Proofs.Ytgalgnopjcpocaa

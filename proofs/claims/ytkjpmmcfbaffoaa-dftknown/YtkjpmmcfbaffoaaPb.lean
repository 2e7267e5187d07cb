/- Middle. -/
import Derived.Test.YtkjpmmcfbaffoaaPa
namespace Go.Proofs.Ytkjpmmcfbaffoaa
open Go.ChangeShapes Go.WideShapes Go.ChangeAt Go.RowKit Go.Fl Ieee
attribute [local go_sem] run_store_float run_store_c isSome_set call35 call34 run_neg fold_eq fold_ne fold_lt fold_gt abs_eq

theorem CRow.heap {b g n : Nat} {w : World} {d : List (Nat × Nat)} (h : CRow b w (.slice (some ⟨g, 0, none⟩) n n) d) : w.heap[g]? = some (.cells (d.map ce).toArray 26 (0, 0)) := by
  have hl := h.len
  obtain ⟨h1, h2⟩ := h
  rcases h2 with ⟨h2, _⟩ | ⟨g0, cap0, cur, e, k2, k3, k4, k5, k6, k7⟩
  · cases h2
  · simp only [Value.slice.injEq, Option.some.injEq, Addr.mk.injEq] at e
    obtain ⟨⟨rfl, _⟩, e2, rfl⟩ := e
    rw [k3]
    congr 2
    apply Array.ext'
    rw [← k7, List.take_of_length_le]
    simp; omega
theorem CRow.of_heap {b g n : Nat} {w : World} {d : List (Nat × Nat)} (hl : d.length = n) (hb : b ≤ g) (hn : n ≤ 100000) (h : w.heap[g]? = some (.cells (d.map ce).toArray 26 (0, 0))) : CRow b w (.slice (some ⟨g, 0, none⟩) n n) d := by
  subst hl
  refine ⟨by simp, Or.inr ⟨g, _, _, rfl, hb, h, Nat.le_refl _, by unfold maxLen; omega, by simp, ?_⟩⟩
  rw [List.take_of_length_le (by simp)]
theorem splice2 {α : Type} (Z X Y : List α) (k : Nat) (hk : X.length = k) (hZ : Z.length = k + Y.length) : splice (splice Z 0 X) k Y = X ++ Y := by
  subst hk
  simp [splice]
  omega
/-- What a slice's stretch holds. -/
def cut (f : Nat → Nat × Nat) (o k : Nat) : List (Nat × Nat) := (List.range k).map fun i => f (o + i)
theorem cut_len (f : Nat → Nat × Nat) (o k : Nat) : (cut f o k).length = k := by simp [cut]
/-- A list whose second half stands ahead of its first. -/
def midL (n : Nat) (f : Nat → Nat × Nat) : List (Nat × Nat) := cut f ((n + 1) / 2) (n - (n + 1) / 2) ++ cut f 0 ((n + 1) / 2)
def ML (w : World) (L : List (Nat × Nat)) (e : Ending) (w' : World) : Prop := ∃ v, e = .returned v ∧ Hid (CRow w.heap.size w' v L) ∧ Hid (Up w w')
theorem sz26 : (Try.prog.info? 26).map (·.size) = some 1 := by kernel_rfl
theorem ce_one {l : List (Nat × Nat)} : ∀ v ∈ l.map ce, v.oneCell' = true := by
  intro v hv
  obtain ⟨p, _, rfl⟩ := List.mem_map.1 hv
  rfl
theorem src_ok {w : World} {lg lo n o k : Nat} {f : Nat → Nat × Nat} (hR : RD w lg lo n f) (hk : o + k ≤ n) : ∀ j v, ((cut f o k).map ce)[j]? = some v → w.cell? ((⟨lg, lo + o, none⟩ : Addr).add j) = some v := by
  intro j v hv
  unfold cut at hv
  have hj : j < k := by
    have := List.getElem?_eq_some_iff.1 hv
    obtain ⟨h, _⟩ := this
    simpa using h
  rw [List.getElem?_map, List.getElem?_map, List.getElem?_range hj] at hv
  simp only [Option.map_some, Option.some.injEq] at hv
  rw [← hv]
  have := hR (o + j) (by omega)
  rw [← Nat.add_assoc] at this
  by_cases e : j = 0
  · subst e; exact this
  · simpa [Addr.add, e] using this
theorem upon_copy {o : Oper} {a : Act} {next : Act → World → Prop} {Q : Exit → Act → World → Prop} {w : World} {F : Value → World → Result Next} {g off dLen dCap lg lo' lo n s sLen sCap : Nat} {cur : List (Nat × Nat)} {f : Nat → Nat × Nat}
    (hg : Hid (w.heap[g]? = some (.cells (cur.map ce).toArray 26 (0, 0)))) (hR : Hid (RD w lg lo n f)) (ho : lo' = lo + s) (hk : s + sLen ≤ n) (hle : sLen ≤ dLen) (hfit : off + sLen ≤ cur.length)
    (h : ∀ w', Hid (w'.heap[g]? = some (.cells ((splice cur off (cut f s sLen)).map ce).toArray 26 (0, 0))) → Hid (But g w w') → o.upon Try.prog a next Q (F (.int .i64 sLen) w')) :
    o.upon Try.prog a next Q (((Builtin.copy_ #[22, 22] 3 #[.slice (some ⟨g, off, none⟩) dLen dCap, .slice (some ⟨lg, lo', none⟩) sLen sCap]).run Try.prog w).andThen F) := by
  subst ho
  have hl : ((cut f s sLen).map ce).length = sLen := by rw [List.length_map, cut_len]
  have e := run_copy_row (P := Try.prog) w 22 22 3 26 g off dLen dCap ⟨lg, lo + s, none⟩ sLen sCap (cur.map ce).toArray 26 ((cut f s sLen).map ce) Try.underlying22 sz26 hg.out (by rw [hl]; exact (Nat.min_eq_left hle).symm) (src_ok hR.out hk) (by rw [hl]; simpa using hfit) ce_one
  rw [e, hl]
  refine h _ ?_ ⟨rfl, rfl, rfl, by simp [World.setRow], fun k _ hne => setRow_other _ _ _ _ (by simpa using hne)⟩
  show _ = _
  rw [setRow_heap _ _ _ _ _ _ hg.out]
  congr 3
  simp [splice, cut_len]
set_option maxHeartbeats 1000000 in
theorem t6 (lg lo n cap : Nat) (f : Nat → Nat × Nat) (w : World) (hb : n ≤ 100000) (h2 : 2 ≤ n) (hc : n ≤ cap) (hR : RD w lg lo n f) : Calls Try.prog 6 #[.slice (some ⟨lg, lo, none⟩) n cap] w (ML w (midL n f)) := by
  have HR : Hid (RD w lg lo n f) := hR
  clear hR
  obtain ⟨h, hh⟩ : ∃ h, (n + 1) / 2 = h := ⟨_, rfl⟩
  have HH : Hid ((n + 1) / 2 = h) := hh
  have q1 : ((n : Int) + 1) / 2 = h := by omega
  have q2 : IntKind.i64.wrap (h : Int) = h := i64_id (by omega)
  have z1 : (h : Int) ≤ (n : Int) := by omega
  have z2 : (n : Int) ≤ (cap : Int) := by omega
  have z3 : (0 : Int) ≤ (h : Int) := by omega
  have z4 : h ≤ n := by omega
  clear hh
  obtain ⟨m, hm⟩ : ∃ m, n - h = m := ⟨_, rfl⟩
  have z5 : m ≤ n := by omega
  have z15 : (h : Int) ≤ (cap : Int) := by omega
  have z6 : (m : Int) ≤ (n : Int) := by omega
  have z7 : (0 : Int) ≤ (m : Int) := by omega
  have z8 : n - m = h := by omega
  have z9 : ¬ cap = h := by omega
  have z10 : ¬ h = cap := by omega
  have z11 : ¬ n = m := by omega
  have z12 : ¬ m = n := by omega
  have z13 : ¬ cap - h = 0 := by omega
  have z14 : ¬ n - m = 0 := by omega
  go_enter Try.func6, Try.ntmps6
  go_wp2_with (first
    | ((with_reducible refine upon_make (by omega) ?_); intro g w1 HM; have HR1 : Hid (RD w1 lg lo n f) := HR.out.up HM.out.2.2; have HG1 : Hid (w1.heap[g]? = some (.cells ((List.replicate n (0, 0)).map ce).toArray 26 (0, 0))) := HM.out.2.1.heap)
    | ((with_reducible refine upon_copy HG1 HR1 rfl (by omega) (by omega) (by simp; omega) ?_); intro w2 HG2 HB2))
  have HR2 : Hid (RD w2.drew lg lo n f) := (HB2.out.rd (by
    have h0 := HR1.out 0 (by omega)
    have h1 := HM.out.1
    have h2 := World.block_lt_of_cell? w _ (HR.out 0 (by omega))
    have h3 : lg < w.heap.size := h2
    omega) HR1.out).up (Up.drew _)
  have HG3 : Hid (w2.drew.heap[g]? = some (.cells ((splice (List.replicate n (0, 0)) 0 (cut f h m)).map ce).toArray 26 (0, 0))) := HG2.out
  have HM2 : Hid (w.heap.size = g ∧ Up w w2) := ⟨HM.out.1, HB2.out.up HM.out.2.2 (by have := HM.out.1; omega)⟩
  have HL2 : Hid ((splice (List.replicate n ((0 : Nat), (0 : Nat))) 0 (cut f h m)).length = n) := by
    show _ = _
    rw [length_splice _ _ _ (by rw [cut_len]; simp; omega)]; simp
  clear HG2 HR1 HG1 HB2 HM
  go_region_held3 (fun _ => True) (exact True.intro) (((with_reducible refine upon_copy (s := 0) HG3 HR2 rfl (by omega) (by omega) (by rw [HL2.out]; omega) ?_); intro w3 HG4 HB4))
  go_wp2
  go_ret
  have hs : splice (splice (List.replicate n ((0 : Nat), (0 : Nat))) 0 (cut f h m)) m (cut f 0 h) = midL n f := by
    rw [splice2 _ _ _ _ (cut_len _ _ _) (by rw [cut_len]; simp; omega), midL, HH.out, hm]
  have hg := HG4.out
  rw [hs] at hg
  have hm2 := HM2.out
  refine ⟨_, rfl, hm2.1 ▸ CRow.of_heap (b := g) (by rw [midL, List.length_append, cut_len, cut_len, HH.out]; omega) (Nat.le_refl _) hb hg, ?_⟩
  exact But.up ((But.of_up (Up.drew _)).trans HB4.out) hm2.2 (by omega)
end Go.Proofs.Ytkjpmmcfbaffoaa

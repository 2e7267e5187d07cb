/- What PlotsOrdered keeps while it goes over its lists. -/
import Derived.Test.YtijfmaepoamkgaaYb
namespace Go.Proofs.Ytijfmaepoamkgaa
open Go.ChangeShapes Go.WideShapes Go.ChangeAt Go.RowKit Go.Fl Go.Sort

theorem pv_of_po {b : Nat} {w : World} {q : Option Addr} {n c : Nat} {D : List Plt} (h : PO b w (.slice q n c) D) (few : n ≤ 1000000) (hf : ∀ i, i < n → (D.getD i Plt.zero).Fit) : PV w q n c (fun i => D.getD i Plt.zero) := by
  have hl := h.len
  refine ⟨?_, few, hf, fun hp => ?_⟩
  · rcases h.2 with ⟨h1, h2⟩ | ⟨g, cap, cur, h1, _, _, h4, _⟩
    · simp only [Value.slice.injEq] at h1; omega
    · simp only [Value.slice.injEq] at h1; omega
  · obtain ⟨g, hg, _, _, _⟩ := h.at (i := 0) (by omega)
    refine ⟨g, 0, hg, fun i hi => ?_⟩
    obtain ⟨g', hg', _, _, h5⟩ := h.at (i := i) (by omega)
    rw [hg] at hg'
    simp only [Option.some.injEq, Addr.mk.injEq] at hg'
    rw [hg'.1, Nat.zero_add]
    exact h5
theorem pv_congr {w : World} {q : Option Addr} {n c : Nat} {S S' : Nat → Plt} (h : PV w q n c S) (he : ∀ j, j < n → S j = S' j) : PV w q n c S' :=
  ⟨h.cap, h.few, fun i hi => he i hi ▸ h.fit i hi, fun hp => by
    obtain ⟨b, o, e, k⟩ := h.rd hp
    exact ⟨b, o, e, fun i hi => he i hi ▸ k i hi⟩⟩
theorem map_getD {P : Nat → Plt} {o : List Nat} {j : Nat} (h : j < o.length) : (o.map P).getD j Plt.zero = P o[j]! := by
  rw [getElem!_pos o j h]
  simp [List.getD, h]
/-- Loop 1: the first i are marked, the first j are laid. -/
structure L1 (w wr : World) (g n : Nat) (o : List Nat) (po : Option Addr) (co : Nat) (vs : Value) (P : Nat → Plt) (i j : Nat) (H : List Nat) : Prop where
  up : Up w wr
  big : w.heap.size ≤ g
  ord : OPl 0 wr (.slice po n co) o
  olt : ∀ k, (Value.slice po n co).ownBlock = some k → k < g
  had : OPl 0 wr (.slice (some ⟨g, 0, none⟩) n n) H
  srt : PO (g + 1) wr vs ((o.take j).map P)
  hH : ∀ k, k < n → H[k]! = if k ∈ o.take i then 1 else 0
theorem L1.put {w wr : World} {g n : Nat} {o : List Nat} {po : Option Addr} {co : Nat} {vs : Value} {P : Nat → Plt} {i : Nat} {H : List Nat} (h : L1 w wr g n o po co vs P i i H) (ho : InOrd P n o) (hi : i < n) {k : Nat} (hk : o[i]! = k) : L1 w (wr.setCell ⟨g, k, none⟩ (.int .i64 1)) g n o po co vs P (i + 1) i (H.set k 1) := by
  obtain ⟨s1, s2⟩ := OR.put h.had k 1
  have hl := OR.len h.had
  have hol := ho.length
  refine ⟨s2.up h.up h.big, h.big, OR.far h.ord s2 (fun e => ?_), h.olt, s1, owns_grown h.srt s2 (fun x hx e => ?_), fun j hj => ?_⟩
  · have := h.olt _ e; omega
  · cases hx
    have := (h.srt.lt _ e).1
    omega
  · rw [get_set' H k 1 (by omega), h.hH j hj]
    have ht : o.take (i + 1) = o.take i ++ [k] := take_next (by omega) hk
    rw [ht]
    by_cases e : j = k
    · simp [e]
    · simp [e]
theorem L1.app {w wr wa w2 : World} {g n : Nat} {o : List Nat} {po : Option Addr} {co : Nat} {vs v' : Value} {P : Nat → Plt} {i : Nat} {H : List Nat} (h : L1 w wr g n o po co vs P (i + 1) i H) (hi : i < o.length) {k : Nat} (hk : o[i]! = k) (ha : Up wr wa) (hown : w2.ownsRow (g + 1) 28 5 v' (((o.take i).map P).length + 1) (fl5 ((o.take i).map P) ++ pL (P k))) (hg : wa.grownBy w2 vs.ownBlock) : L1 w w2 g n o po co v' P (i + 1) (i + 1) H := by
  refine ⟨grown_up (h.up.trans ha) hg (fun j hj => ?_), h.big, owns_grown (owns_up h.ord ha) hg (fun x hx e => ?_), h.olt, owns_grown (owns_up h.had ha) hg (fun x hx e => ?_), ?_, h.hH⟩
  · have := (h.srt.lt _ hj).1
    have := h.big
    omega
  · have := (h.srt.lt _ hx).1
    have := h.olt _ e
    omega
  · have := (h.srt.lt _ hx).1
    simp only [Value.ownBlock, Option.some.injEq] at e
    omega
  · rw [take_next hi hk, List.map_append]
    exact PO.app hown
theorem L1.upon {w wr w2 : World} {g n : Nat} {o : List Nat} {po : Option Addr} {co : Nat} {vs : Value} {P : Nat → Plt} {i j : Nat} {H : List Nat} (h : L1 w wr g n o po co vs P i j H) (hu : Up wr w2) : L1 w w2 g n o po co vs P i j H := ⟨h.up.trans hu, h.big, owns_up h.ord hu, h.olt, owns_up h.had hu, h.srt.up hu, h.hH⟩
theorem take_at {o : List Nat} {i j : Nat} (h : j < i) : (o.take i)[j]! = o[j]! := by
  rcases Nat.lt_or_ge j o.length with h1 | h1
  · rw [getElem!_pos _ j (by rw [List.length_take]; omega), getElem!_pos o j h1, List.getElem_take]
  · rw [getElem!_neg _ j (by rw [List.length_take]; omega), getElem!_neg o j (by omega)]
theorem L1.start {w W w1 : World} {g n : Nat} {o : List Nat} {po : Option Addr} {co : Nat} {P : Nat → Plt} (hu : Up w W) (ho : OPl w.heap.size W (.slice po n co) o) (hg : W.heap.size = g) (hown : w1.ownsRow 0 3 1 (.slice (some ⟨g, 0, none⟩) n n) n (madeCells (Value.int .i64 0).cells (n * 1)).toList) (hgr : W.grownBy w1 none) : L1 w w1 g n o po co (.slice none 0 0) P 0 0 (List.replicate n 0) := by
  refine ⟨grown_up hu hgr (fun j hj => by cases hj), by have := hu.size; omega, owns_grown (OR.base ho (Nat.zero_le _)) hgr (fun x hx => by cases hx), fun k hk => by have := (ho.lt k hk).2; omega, ?_, ?_, fun k hk => ?_⟩
  · rw [made_nv] at hown
    unfold OPl OR
    simpa using hown
  · simpa using PO.nil (g + 1) w1
  · rw [rep_at 0 hk]; simp
theorem L1.sorted {w wr : World} {g n : Nat} {o : List Nat} {po : Option Addr} {co : Nat} {q : Option Addr} {c : Nat} {P : Nat → Plt} {H : List Nat} (h : L1 w wr g n o po co (.slice q n c) P n n H) (ho : InOrd P n o) (few : n ≤ 1000000) (hf : ∀ i, i < n → (P i).Fit) : PV wr q n c (fun j => P o[j]!) := by
  have e : ∀ j, j < n → ((o.take n).map P).getD j Plt.zero = P o[j]! := fun j hj => by
    rw [map_getD (by rw [List.length_take, ho.length]; omega), take_at hj]
  exact pv_congr (pv_of_po h.srt few fun i hi => by rw [e i hi]; exact hf _ (ho.at hi)) e
/-- Loop 3: plots turned about. -/
structure L3 (W wr : World) (vs : Value) (T : Nat → Plt) (i : Nat) : Prop where
  up : Up W wr
  row : PO W.heap.size wr vs ((List.range i).map T)
theorem L3.app {W wr wa w2 : World} {vs v' : Value} {T : Nat → Plt} {i : Nat} (h : L3 W wr vs T i) (ha : Up wr wa) (hown : w2.ownsRow W.heap.size 28 5 v' (((List.range i).map T).length + 1) (fl5 ((List.range i).map T) ++ pL (T i))) (hg : wa.grownBy w2 vs.ownBlock) : L3 W w2 v' T (i + 1) := by
  refine ⟨grown_up (h.up.trans ha) hg (fun j hj => (h.row.lt _ hj).1), ?_⟩
  rw [List.range_succ, List.map_append]
  exact PO.app hown
theorem L3.turned {W wr : World} {q : Option Addr} {n c : Nat} {T : Nat → Plt} (h : L3 W wr (.slice q n c) T n) (few : n ≤ 1000000) (hf : ∀ i, i < n → (T i).Fit) : PV wr q n c T := by
  have e : ∀ j, j < n → ((List.range n).map T).getD j Plt.zero = T j := fun j hj => by
    rw [map_getD (by simpa using hj), getElem!_pos _ j (by simpa using hj)]; simp
  exact pv_congr (pv_of_po h.row few fun i hi => by rw [e i hi]; exact hf i hi) e
theorem range_at {n j : Nat} (h : j < n) : (List.range n)[j]! = j := by
  rw [getElem!_pos _ j (by simpa using h)]; simp
/-- The place that is taken. -/
theorem turn_at {b : Int} {n i : Nat} (hi : i < n) (hb : n ≤ 200) : ((((i : Int) + b.tmod n) + n).tmod n) = (((i + ((b.tmod n + n).toNat % n)) % n : Nat) : Int) := by
  have h1 := Int.tmod_lt_of_pos b (show (0 : Int) < n by omega)
  have h2 : -(n : Int) < b.tmod n := by
    have := Int.tmod_lt_of_pos (-b) (show (0 : Int) < n by omega)
    rw [Int.neg_tmod] at this
    omega
  rw [Int.tmod_eq_emod_of_nonneg (by omega)]
  have e : ((i : Int) + b.tmod n) + n = ((i + (b.tmod n + n).toNat : Nat) : Int) := by omega
  rw [e, Nat.add_mod_mod]
  rfl
theorem tmod_in {b : Int} {n : Nat} (hn : 0 < n) : -(n : Int) < b.tmod n ∧ b.tmod n < n := by
  have h1 := Int.tmod_lt_of_pos b (show (0 : Int) < n by omega)
  have := Int.tmod_lt_of_pos (-b) (show (0 : Int) < n by omega)
  rw [Int.neg_tmod] at this
  omega
end Go.Proofs.Ytijfmaepoamkgaa

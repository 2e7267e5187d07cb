/- A square table with ones on its diagonal: square of none. -/
import Derived.Test.YthpoipajfkfdeabCj
namespace Go.Proofs.Ythpoipajfkfdeab
open Go.ChangeShapes Go.WideShapes Go.ChangeAt Go.RowKit Go.Fl Ieee
attribute [local go_sem] run_store_float run_store_c call43 call17 run_neg fold_eq fold_ne fold_lt fold_gt abs_eq

theorem owns_grown {b n : Nat} {t : TypeId} {s : Nat} {w w' : World} {v : Value} {xs : List Value} {row : Option Nat} (h : w.ownsRow b t s v n xs) (hg : w.grownBy w' row) (hne : ∀ g, v.ownBlock = some g → row ≠ some g) : w'.ownsRow b t s v n xs := by
  have hl := World.ownsRow.lt h
  obtain ⟨h1, h2⟩ := h
  refine ⟨h1, ?_⟩
  rcases h2 with h2 | ⟨g0, cap0, cur, e, k2, k3, k4⟩
  · exact Or.inl h2
  · subst e
    refine Or.inr ⟨g0, cap0, cur, rfl, k2, ?_, k4⟩
    rw [hg.block g0 (hl g0 rfl).2 (fun e => hne g0 rfl e.symm)]; exact k3
theorem XR.grown {b : Nat} {w w' : World} {g n : Nat} {x : Nat → CN} {row : Option Nat} (h : XR b w g n x) (hg : w.grownBy w' row) (hne : row ≠ some g) : XR b w' g n x := by
  obtain ⟨d, hd, hx⟩ := h.row
  exact ⟨⟨d, owns_grown hd hg (fun k hk => by cases hk; exact hne), hx⟩, h.lo⟩
/-- A row is appended to a table of one's own. -/
theorem wpList_pushS {ops : Array Oper} {rest : List Oper} {o : Oper} {a : Act} {Q : Exit → Act → World → Prop} (hgd : o.guard = none) (s x : Operand) (ho : o.op = .call { callee := .builtin .append, args := #[s, x], argTypes := #[27, 27] })
    {b : Nat} {w : World} (p : Option Addr) (m c : Nat) (L : List Value) (q : Option Addr) (y z : Nat) (hs : a.eval s = .slice p m c) (hx : a.eval x = .slice (some ⟨w.heap.size, 0, none⟩) 1 1) (HO : w.ownsRow b 22 1 (.slice p m c) m L) (hb : b ≤ w.heap.size) (hm : m ≤ 2000000)
    (h : ∀ p' c' w', Hid (w'.ownsRow b 22 1 (.slice p' (m + 1) c') (m + 1) (L ++ [.slice q y z])) → Hid ((w.alloc (.cells #[.slice q y z] 22)).grownBy w' (Value.slice p m c).ownBlock) → Hid ((Value.slice p' (m + 1) c').ownBlock = (Value.slice p m c).ownBlock ∨ (Value.slice p' (m + 1) c').ownBlock = some (w.alloc (.cells #[.slice q y z] 22)).heap.size) → wpList Try.prog ops Q rest (a.put o.dst (.slice p' (m + 1) c')) w') : wpList Try.prog ops Q (o :: rest) a (w.alloc (.cells #[.slice q y z] 22)) := by
  obtain ⟨i0, hi, hz0, hz2, hz3⟩ := info_parts info27
  have HO' : (w.alloc (.cells #[.slice q y z] 22)).ownsRow b 22 1 (.slice p m c) m L := World.ownsRow.alloc HO _
  refine wpList_append_own_at _ hgd s x 27 ho b 22 i0 (.slice none 0 0) 1 24 Try.underlying27 hi hz0 hz2 hz3 rfl (by decide) _ _ _ hs HO' ⟨w.heap.size, 0, none⟩ 1 1 [.slice q y z] hx rfl (one_new _ _ _) (fun u hu => by simp at hu; subst hu; rfl) (by unfold maxLen; omega) (by omega) (by simp; omega) ?_
  intro v' w' h1 h2 _ h4
  obtain ⟨p', c', hv, _⟩ := own_form h1
  subst hv
  exact h p' c' w' h1 h2 h4
def idC (i j : Nat) : CN := if i = j then (ab 4607182418800017408, ab 0) else (ab 0, ab 0)
/-- The first k rows of the table. -/
structure SQ (w wr : World) (p : Option Addr) (c n k : Nat) (L : List Value) : Prop where
  own : wr.ownsRow w.heap.size 22 1 (.slice p k c) k L
  rows : ∀ i, i < k → ∃ g, L[i]? = some (.slice (some ⟨g, 0, none⟩) n n) ∧ XR w.heap.size wr g n (idC i) ∧ (Value.slice p k c).ownBlock ≠ some g
  up : Up w wr
theorem SQ.mono {w wr w' : World} {p : Option Addr} {c n k : Nat} {L : List Value} (h : SQ w wr p c n k L) (hu : Up wr w') : SQ w w' p c n k L :=
  ⟨owns_up h.own hu, fun i hi => by obtain ⟨g, h1, h2, h3⟩ := h.rows i hi; exact ⟨g, h1, h2.up hu, h3⟩, h.up.trans hu⟩
theorem SQ.far {w wr w' : World} {p : Option Addr} {c n k g : Nat} {L : List Value} (h : SQ w wr p c n k L) (hb : But g wr w') (hp : (Value.slice p k c).ownBlock ≠ some g) (hg : ∀ i g', i < k → L[i]? = some (.slice (some ⟨g', 0, none⟩) n n) → g' ≠ g) (hlo : w.heap.size ≤ g) : SQ w w' p c n k L :=
  ⟨owns_grown h.own hb (fun g' e q => hp (by rw [e]; exact q.symm)), fun i hi => by
    obtain ⟨g', h1, h2, h3⟩ := h.rows i hi
    exact ⟨g', h1, h2.far hb (hg i g' hi h1), h3⟩, hb.up h.up hlo⟩
theorem SQ.lts {w wr : World} {p : Option Addr} {c n k : Nat} {L : List Value} (h : SQ w wr p c n k L) : (∀ g, (Value.slice p k c).ownBlock = some g → g < wr.heap.size) ∧ ∀ i g', i < k → L[i]? = some (.slice (some ⟨g', 0, none⟩) n n) → g' < wr.heap.size :=
  ⟨fun g hg => (World.ownsRow.lt h.own g hg).2, fun i g' hi he => by
    obtain ⟨g2, h1, h2, h3⟩ := h.rows i hi
    rw [h1] at he
    simp only [Option.some.injEq, Value.slice.injEq, Addr.mk.injEq, and_true] at he
    rw [← he]; exact h2.lt⟩
theorem SQ.push {w wr w' : World} {p p' : Option Addr} {c c' n k g : Nat} {L : List Value} (h : SQ w wr p c n k L) (hx : XR w.heap.size wr g n (idC k)) (hpg : (Value.slice p k c).ownBlock ≠ some g)
    (h1 : w'.ownsRow w.heap.size 22 1 (.slice p' (k + 1) c') (k + 1) (L ++ [.slice (some ⟨g, 0, none⟩) n n])) (h2 : (wr.alloc (.cells #[.slice (some ⟨g, 0, none⟩) n n] 22)).grownBy w' (Value.slice p k c).ownBlock) (h3 : (Value.slice p' (k + 1) c').ownBlock = (Value.slice p k c).ownBlock ∨ (Value.slice p' (k + 1) c').ownBlock = some (wr.alloc (.cells #[.slice (some ⟨g, 0, none⟩) n n] 22)).heap.size) : SQ w w' p' c' n (k + 1) (L ++ [.slice (some ⟨g, 0, none⟩) n n]) := by
  have hl : L.length = k := by
    have := h.own.1
    simpa using this
  have new : ∀ g', g' < wr.heap.size → (Value.slice p k c).ownBlock ≠ some g' → (Value.slice p' (k + 1) c').ownBlock ≠ some g' := fun g' hg' hne => by
    rcases h3 with q | q
    · rw [q]; exact hne
    · rw [q]; simp; omega
  refine ⟨h1, fun i hi => ?_, ?_⟩
  · by_cases e : i < k
    · obtain ⟨g', k1, k2, k3⟩ := h.rows i e
      exact ⟨g', by rw [List.getElem?_append_left (by omega)]; exact k1, (k2.up (Up.alloc _ _)).grown h2 k3, new g' k2.lt k3⟩
    · obtain rfl : i = k := by omega
      exact ⟨g, by rw [List.getElem?_append_right (by omega), hl]; simp, (hx.up (Up.alloc _ _)).grown h2 hpg, new g hx.lt hpg⟩
  · have h5 : Up w (wr.alloc (.cells #[.slice (some ⟨g, 0, none⟩) n n] 22)) := h.up.trans (Up.alloc _ _)
    exact RowKit.Below.grown h5 h2 (RowKit.Below.size h5) (fun j hj => (World.ownsRow.lt h.own j hj).1)
def SqR (n : Nat) (w : World) (e : Ending) (w' : World) : Prop := ∃ p c f, e = .returned (.slice p n c) ∧ Hid (TR w' p n (fun _ => n) f ∧ ∀ i j, i < n → j < n → ab2 (f i j) = idC i j) ∧ Hid (Up w w')
theorem SQ.done {w wr : World} {p : Option Addr} {c n : Nat} {L : List Value} (h : SQ w wr p c n n L) : ∃ f, TR wr p n (fun _ => n) f ∧ ∀ i j, i < n → j < n → ab2 (f i j) = idC i j := by
  have key : ∀ i, ∃ d : List (Nat × Nat), i < n → ∃ g, L[i]? = some (.slice (some ⟨g, 0, none⟩) n n) ∧ RowV wr (some ⟨g, 0, none⟩) n (fun j => d[j]!) ∧ ∀ j, j < n → ab2 d[j]! = idC i j := fun i => by
    by_cases hi : i < n
    · obtain ⟨g, h1, h2, -⟩ := h.rows i hi
      obtain ⟨d, h3, h4⟩ := h2.rowV
      exact ⟨d, fun _ => ⟨g, h1, h3, h4⟩⟩
    · exact ⟨[], fun q => absurd q hi⟩
  obtain ⟨D, hD⟩ := Classical.axiomOfChoice key
  refine ⟨fun i j => (D i)[j]!, fun hn => ?_, fun i j hi hj => ?_⟩
  · obtain ⟨p1, c1, e1, e2⟩ := own_form h.own
    simp only [Value.slice.injEq] at e1
    obtain ⟨b, hb⟩ := e2 hn
    have hp := e1.1.trans hb
    subst hp
    refine ⟨b, 0, rfl, fun i hi => ?_⟩
    obtain ⟨g, h1, h2, -⟩ := hD i hi
    refine ⟨some ⟨g, 0, none⟩, n, ?_, Nat.le_refl _, h2⟩
    rw [Nat.zero_add, World.ownsRow.cellAt h.own i (by omega)]; exact h1
  · obtain ⟨g, -, -, h3⟩ := hD i hi
    exact h3 j hj
set_option maxHeartbeats 8000000 in
set_option maxRecDepth 20000 in
theorem t7 {w : World} {n : Nat} (hn : n ≤ 100) : Calls Try.prog 7 #[.slice none 0 0, .int .i64 n] w (SqR n w) := by
  have z1 : (n : Int) ≤ 100 := by omega
  have z2 : n ≤ 1000000 := by omega
  go_enter Try.func7, Try.ntmps7
  go_wp2
  go_loopw [5, 6, 7, 8] (fun vo vi _ _ wr => ∃ (k c : Nat) (p : Option Addr) (L : List Value), k ≤ n ∧ vo = .slice p k c ∧ vi = .int .i64 k ∧ Hid (SQ w wr p c n k L)) (fun _ vi _ _ _ => n - (intOf vi).toNat)
  case atStart => exact ⟨0, 0, none, [], by omega, rfl, rfl, World.ownsRow_nil _ _ _ _, fun i hi => by omega, Up.refl _⟩
  case round =>
    obtain ⟨k, c, p, L, hk, rfl, rfl, HS⟩ := hrel
    rename World => wr
    by_cases hlt : k < n
    · have y1 : (k : Int) < (n : Int) := by omega
      have HK : Hid (k ≤ 2000000) := (by omega : k ≤ 2000000)
      go_wp2_with ((with_reducible refine upon_makeC z2 ?_); intro g w1 HM)
      have HX0 : Hid (XR w.heap.size w1 g n (fun _ => (ab 0, ab 0))) := (XR.made HM.out).down (RowKit.Below.size HS.out.up)
      have HS1 : Hid (SQ w w1 p c n k L) := HS.out.mono HM.out.2.2
      have HN : Hid ((Value.slice p k c).ownBlock ≠ some g ∧ (∀ i g', i < k → L[i]? = some (.slice (some ⟨g', 0, none⟩) n n) → g' ≠ g)) := by
        have h1 := HS.out.lts
        have h2 := HM.out.1
        exact ⟨fun e => by have := h1.1 g e; omega, fun i g' hi he => by have := h1.2 i g' hi he; omega⟩
      clear HM HS
      go_loopw [8] (fun vj wx => ∃ (j : Nat) (x : Nat → CN), j ≤ n ∧ vj = .int .i64 j ∧ Hid (XR w.heap.size wx g n x) ∧ Hid (∀ l, l < n → x l = if l < j then idC k l else (ab 0, ab 0)) ∧ Hid (SQ w wx p c n k L)) (fun vj _ => n - (intOf vj).toNat)
      case atStart => exact ⟨0, _, by omega, rfl, HX0, fun l hl => by rw [if_neg (by omega)], HS1⟩
      case round =>
        clear HX0 HS1
        obtain ⟨j, x, hj, rfl, HX, HV, HS⟩ := hrel
        rename World => wx
        by_cases hlt2 : j < n
        · have y2 : (j : Int) < (n : Int) := by omega
          obtain ⟨kn, hkn⟩ : ∃ kn, k * n = kn := ⟨_, rfl⟩
          have hkn1 : kn ≤ 10000 := by rw [← hkn]; exact Nat.mul_le_mul (show k ≤ 100 by omega) hn
          have e1 : (k : Int) * (n : Int) = kn := by rw [← hkn, Int.natCast_mul]
          have e2 : ¬ (kn : Int) + (j : Int) < 0 := by omega
          clear hkn
          by_cases hkj : k = j
          · subst hkj
            obtain ⟨x9, y9, c9, -, f9⟩ := HX.out.cell hlt2
            have c8 : (wx.cell? ⟨g, k, none⟩).isSome = true := by rw [c9]; rfl
            clear c9
            obtain ⟨HP1, HP2⟩ := HX.out.put hlt2 4607182418800017408 0
            go_wp2
            go_roundw
            case rel =>
              refine ⟨k + 1, _, by omega, by go_num, HP1, fun l hl => ?_, HS.out.far HP2 HN.out.1 HN.out.2 HX.out.lo⟩
              by_cases e : l = k
              · subst e
                rw [if_pos rfl, if_pos (by omega)]; unfold idC; rw [if_pos rfl]
              · rw [if_neg e, HV.out l hl]
                by_cases e3 : l < k
                · rw [if_pos e3, if_pos (by omega)]
                · rw [if_neg e3, if_neg (by omega)]
            case measure => simp [intOf]; omega
          · have e3 : ((k : Int) == (j : Int)) = false := by rw [beq_eq_false_iff_ne]; omega
            go_wp2
            go_roundw
            case rel =>
              refine ⟨j + 1, x, by omega, by go_num, HX, fun l hl => ?_, HS⟩
              rw [HV.out l hl]
              by_cases e : l = j
              · subst e
                rw [if_neg (by omega), if_pos (by omega)]; unfold idC; rw [if_neg hkj]
              · by_cases e3 : l < j
                · rw [if_pos e3, if_pos (by omega)]
                · rw [if_neg e3, if_neg (by omega)]
            case measure => simp [intOf]; omega
        · obtain rfl : j = n := by omega
          have HX2 : Hid (XR w.heap.size wx g j (idC k)) := HX.out.ext fun l hl => by rw [HV.out l hl, if_pos hl]
          clear HX HV
          go_wp2_with (at_builtin; refine wpList_pushS (b := w.heap.size) rfl _ _ rfl p k c L (some ⟨g, 0, none⟩) j j rfl rfl HS.out.own (RowKit.Below.size HS.out.up) HK.out ?_; intro p' c' w7 O7 G7 B7)
          have HS7 := HS.out.push HX2.out HN.out.1 O7.out G7.out B7.out
          go_roundw
          case rel => exact ⟨k + 1, c', p', _, by omega, rfl, by go_num, HS7⟩
          case measure => simp [intOf]; omega
    · obtain rfl : k = n := by omega
      go_wp2
      go_ret
      obtain ⟨f, h1, h2⟩ := HS.out.done
      exact ⟨p, c, f, rfl, ⟨h1, h2⟩, HS.out.up⟩
end Go.Proofs.Ythpoipajfkfdeab

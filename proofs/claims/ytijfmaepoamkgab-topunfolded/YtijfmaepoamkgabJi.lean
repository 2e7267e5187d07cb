/- Best and Near. -/
import Derived.Test.YtijfmaepoamkgabJh
import Derived.Laws.CopyOwn
namespace Go.Proofs.Ytijfmaepoamkgab.Fo
open Go.ChangeShapes Go.WideShapes Go.ChangeAt Go.RowKit

theorem t31 (p q : Option Addr) (n1 n2 c1 c2 : Nat) (r m : Nat → Int) (bad : Bool) (most : Int) (w : World) (hr : IR w p n1 r) (hm : IR w q n2 m) : Calls Try.prog 31 #[.slice p n1 c1, .slice q n2 c2, .bool bad, .int .i64 most] w fun e w' => (ringsC m n1 n2 bad most ≠ 0 ∧ e = .returned (.tuple #[.slice none 0 0, .int .i64 (ringsC m n1 n2 bad most)]) ∧ Hid (Up w w')) ∨ (ringsC m n1 n2 bad most = 0 ∧ RN w r m (min n1 n2) e w') := by
  by_cases h : min n1 n2 ≤ 8
  · exact t31a p q n1 n2 c1 c2 r m bad most w h hr hm
  · refine (t31b p q n1 n2 c1 c2 bad most w (by omega)).mono fun e w' k => Or.inl ?_
    have : ringsC m n1 n2 bad most = 3 := by unfold ringsC; rw [if_pos (by omega)]
    rw [this]
    exact ⟨by decide, k.1, k.2⟩
theorem ringsC_ok {m : Nat → Int} {n1 n2 : Nat} {bad : Bool} {most : Int} (h : ringsC m n1 n2 bad most = 0) : min n1 n2 ≤ 8 ∧ (∀ i, i < min n1 n2 → 1 ≤ m i ∧ m i ≤ 1099511627776) ∧ bad = false ∧ most ≤ 4194304 := by
  unfold ringsC at h
  by_cases h1 : 8 < min n1 n2
  · rw [if_pos h1] at h; cases h
  · rw [if_neg h1] at h
    by_cases h2 : ringsE m (min n1 n2) ≠ 0
    · rw [if_pos h2] at h; exact absurd h h2
    · rw [if_neg h2] at h
      cases bad with
      | true => cases h
      | false =>
        by_cases h3 : 4194304 < most
        · simp [h3] at h
        · exact ⟨by omega, rings_ok (by omega), rfl, by omega⟩
theorem ringF_ok {r m : Nat → Int} {k : Nat} (h : ∀ i, i < k → 1 ≤ m i ∧ m i ≤ 1099511627776) : OKR (ringF r m k) k := fun i hi => by
  obtain ⟨h1, h2⟩ := h i hi
  unfold ringF
  rw [if_pos hi]
  exact ⟨h1, h2, Int.emod_nonneg _ (by omega), Int.emod_lt_of_pos _ (by omega)⟩
theorem far_rem {x r m : Int} (hm : 1 ≤ m) : far x (r % m) m = far x r m := by
  rw [← far_min hm, ← far_min hm]
  have : (x - r % m) % m = (x - r) % m := by rw [Int.sub_emod, Int.emod_emod, ← Int.sub_emod]
  rw [this]
/-- The farthest remainder's distance, of the remainders as they came. -/
theorem wf_ring {r m : Nat → Int} {k : Nat} (h : ∀ i, i < k → 1 ≤ m i) (x : Int) : wf (ringF r m k) k x = worst r m x k := by
  have key : ∀ n, n ≤ k → worst (fun j => (ringF r m k j).1) (fun j => (ringF r m k j).2) x n = worst r m x n := by
    intro n
    induction n with
    | zero => intro _; rfl
    | succ n ih =>
      intro hn
      unfold worst
      rw [ih (by omega)]
      have : far x (ringF r m k n).1 (ringF r m k n).2 = far x (r n) (m n) := by
        unfold ringF
        rw [if_pos (by omega)]
        exact far_rem (h n (by omega))
      rw [this]
  exact key k (Nat.le_refl _)
/-- The least, and the first of those. -/
def Bst (W : Int → Int) (n : Int) (y : Int) : Prop := 0 ≤ y ∧ y < n ∧ (∀ j, 0 ≤ j → j < n → W y ≤ W j) ∧ ∀ j, 0 ≤ j → j < y → W y < W j
/-- What Best answers. -/
def BestP (w : World) (C : Int) (r m : Nat → Int) (k : Nat) (most : Int) (e : Ending) (w' : World) : Prop := Hid (Up w w') ∧ ((C ≠ 0 ∧ e = .returned (.tuple #[.int .i64 0, .int .i64 0, .int .i64 C])) ∨ (C = 0 ∧ ∃ y, e = .returned (.tuple #[.int .i64 y, .int .i64 (worst r m y k), .int .i64 0]) ∧ Hid (Bst (fun x => worst r m x k) most y)))
/-- A row of whole numbers of one's own. -/
def OI (b : Nat) (w : World) (v : Value) (d : List Int) : Prop := w.ownsRow b 2 1 v d.length (d.map (Value.int .i64))
theorem info2 : (Try.prog.info? 2).map (fun i => (i.zero, i.size, i.bytes)) = some (some (.int .i64 0), 1, 8) := by kernel_rfl
theorem owns_below {w w' : World} {b m n : Nat} {t : TypeId} {s : Nat} {v : Value} {xs : List Value} (h : w.ownsRow b t s v n xs) (hu : Below m w w') (hm : ∀ k, v.ownBlock = some k → k < m) : w'.ownsRow b t s v n xs := by
  obtain ⟨h1, h2⟩ := h
  refine ⟨h1, ?_⟩
  rcases h2 with h2 | ⟨g, cap, cur, rfl, k2, k3, k4⟩
  · exact Or.inl h2
  · refine Or.inr ⟨g, cap, cur, rfl, k2, ?_, k4⟩
    rw [hu.block g (hm g rfl)]; exact k3
theorem owns_up {w w' : World} {b n : Nat} {t : TypeId} {s : Nat} {v : Value} {xs : List Value} (h : w.ownsRow b t s v n xs) (hu : Up w w') : w'.ownsRow b t s v n xs := owns_below h hu (fun k hk => (h.lt k hk).2)
theorem OI.up {b : Nat} {w w' : World} {v : Value} {d : List Int} (h : OI b w v d) (hu : Up w w') : OI b w' v d := owns_up h hu
theorem OI.base {b b' : Nat} {w : World} {v : Value} {d : List Int} (h : OI b w v d) (hb : b' ≤ b) : OI b' w v d := by
  obtain ⟨h1, h2⟩ := h
  refine ⟨h1, ?_⟩
  rcases h2 with h2 | ⟨g, cap, cur, rfl, k2, k3⟩
  · exact Or.inl h2
  · exact Or.inr ⟨g, cap, cur, rfl, Nat.le_trans hb k2, k3⟩
theorem own_form {b n : Nat} {w : World} {t : TypeId} {s : Nat} {v : Value} {xs : List Value} (h : w.ownsRow b t s v n xs) : ∃ p cap, v = .slice p n cap ∧ (0 < n → ∃ g, p = some ⟨g, 0, none⟩) := by
  rcases h.2 with ⟨rfl, rfl⟩ | ⟨g, cap, cur, rfl, _⟩
  · exact ⟨none, 0, rfl, fun h => by omega⟩
  · exact ⟨_, cap, rfl, fun _ => ⟨g, rfl⟩⟩
theorem OI.nil (b : Nat) (w : World) : OI b w (.slice none 0 0) [] := ⟨by simp, Or.inl ⟨rfl, rfl⟩⟩
theorem OI.cell {b g n cap : Nat} {w : World} {d : List Int} (h : OI b w (.slice (some ⟨g, 0, none⟩) n cap) d) {i : Nat} (hi : i < d.length) : w.cell? ⟨g, i, none⟩ = some (.int .i64 d[i]!) := by
  obtain ⟨p, cap', he, _⟩ := own_form h
  simp only [Value.slice.injEq] at he
  obtain ⟨rfl, rfl, rfl⟩ := he
  rw [World.ownsRow.cellAt h i (by omega)]
  rw [List.getElem?_map, List.getElem?_eq_getElem hi, getElem!_pos d i hi]
  rfl
theorem OI.ir {b : Nat} {w : World} {p : Option Addr} {n cap : Nat} {d : List Int} (h : OI b w (.slice p n cap) d) : d.length = n ∧ IR w p n (fun i => d[i]!) := by
  obtain ⟨p', cap', he, hp⟩ := own_form h
  simp only [Value.slice.injEq] at he
  obtain ⟨rfl, rfl, rfl⟩ := he
  refine ⟨rfl, fun i hi => ?_⟩
  obtain ⟨g, rfl⟩ := hp (by omega)
  exact ⟨g, 0, rfl, by rw [Nat.zero_add]; exact h.cell hi⟩
theorem one_new (w : World) (x : Int) (t : TypeId) : ∀ (j : Nat) (u : Value), [Value.int .i64 x][j]? = some u → (w.alloc (.cells #[.int .i64 x] t)).cell? ((⟨w.heap.size, 0, none⟩ : Addr).add j) = some u := by
  intro j u hj
  match j, hj with
  | 0, hj => simp at hj; subst hj; exact World.cell?_alloc_at _ _ _ _ rfl
theorem one_one (x : Int) : ∀ u ∈ [Value.int .i64 x], u.oneCell' = true := by
  intro u hu; simp at hu; subst hu; rfl
theorem nearL_skip {W : Nat → Int} {off : Int} {a : Nat} : ∀ n, (∀ j, a ≤ j → j < a + n → off < W j) → nearL W off (a + n) = nearL W off a
  | 0, _ => rfl
  | n + 1, h => by
    rw [← Nat.add_assoc, nearL_succ, if_neg (by have := h (a + n) (by omega) (by omega); omega)]
    exact nearL_skip n fun j h1 h2 => h j h1 (by omega)
theorem nearL_to {W : Nat → Int} {off : Int} {a b : Nat} (hab : a ≤ b) (h : ∀ j, a ≤ j → j < b → off < W j) : nearL W off b = nearL W off a := by
  have := nearL_skip (W := W) (off := off) (a := a) (b - a) (fun j h1 h2 => h j h1 (by omega))
  rwa [show a + (b - a) = b by omega] at this
theorem nearL_mono {W : Nat → Int} {off : Int} {a : Nat} : ∀ n, (nearL W off a).length ≤ (nearL W off (a + n)).length
  | 0 => Nat.le_refl _
  | n + 1 => by
    have := nearL_mono (W := W) (off := off) (a := a) n
    rw [← Nat.add_assoc, nearL_succ]
    split <;> simp <;> omega
theorem app_own {w1 wr w3 : World} {o : Obj} {v v2 : Value} {d : List Int} {b : Int} (h : OI w1.heap.size wr v d) (hu : Up w1 wr) (h2 : w3.ownsRow w1.heap.size 2 1 v2 (d.length + 1) (d.map (Value.int .i64) ++ [.int .i64 b])) (hg : (wr.alloc o).grownBy w3 v.ownBlock) : OI w1.heap.size w3 v2 (d ++ [b]) ∧ Up w1 w3 := by
  refine ⟨?_, Below.grown (hu.trans (Up.alloc _ _)) hg (by have := hu.size; simp; omega) (fun j hj => (h.lt j hj).1)⟩
  unfold OI
  rw [List.map_append, List.length_append]
  exact h2
/-- The near ones, of remainders as they came. -/
def nears (r m : Nat → Int) (k : Nat) (off most : Int) : List Int := nearL (fun x => worst r m x k) off most.toNat
/-- Near's code behind that of the rings. -/
def nearC (C : Int) (r m : Nat → Int) (k : Nat) (off most : Int) : Int := if C ≠ 0 then C else if 65536 < (nears r m k off most).length then 3 else 0
/-- What Near answers. -/
def NearP (w : World) (C : Int) (r m : Nat → Int) (k : Nat) (off most : Int) (e : Ending) (w' : World) : Prop := Hid (Up w w') ∧ ((nearC C r m k off most ≠ 0 ∧ e = .returned (.tuple #[.slice none 0 0, .int .i64 (nearC C r m k off most)])) ∨ (nearC C r m k off most = 0 ∧ ∃ v, e = .returned (.tuple #[v, .int .i64 0]) ∧ Hid (OI w.heap.size w' v (nears r m k off most))))
/-- The state of Near's loop: a is the next near one, the row has those below. -/
def NL (F : Nat → Int × Int) (k : Nat) (off most : Int) (w1 : World) (a : Int) (v : Value) (d : List Int) (wr : World) : Prop := d = nearL (fun (x : Nat) => wf F k x) off (min a.toNat most.toNat) ∧ (a < most → wf F k a ≤ off) ∧ OI w1.heap.size wr v d ∧ Up w1 wr
theorem NL.next {F : Nat → Int × Int} {k : Nat} {off most : Int} {w1 : World} {a b : Int} {v v' : Value} {d : List Int} {wr w' : World} (h : NL F k off most w1 a v d wr) (ha0 : 0 ≤ a) (ha : a < most) (hb : Nx F k (a + 1) off most b) (ho : OI w1.heap.size w' v' (d ++ [a])) (hu : Up w1 w') : NL F k off most w1 b v' (d ++ [a]) w' := by
  obtain ⟨h1, h2, h3, h4⟩ := h
  refine ⟨?_, hb.2.2.2, ho, hu⟩
  have e1 : nearL (fun (x : Nat) => wf F k x) off (a.toNat + 1) = d ++ [a] := by
    have hc : ((a.toNat : Nat) : Int) = a := by omega
    rw [nearL_succ, if_pos (by show wf F k ((a.toNat : Nat) : Int) ≤ off; rw [hc]; exact h2 ha), h1, show min a.toNat most.toNat = a.toNat by omega, hc]
  rw [← e1]
  have hb1 := hb.1
  refine (nearL_to (by omega) fun j g1 g2 => ?_).symm
  exact hb.2.2.1 j (by omega) (by omega)
set_option maxHeartbeats 4000000 in
theorem t14 (p q : Option Addr) (n1 n2 c1 c2 : Nat) (r m : Nat → Int) (off most : Int) (w : World) (hr : IR w p n1 r) (hm : IR w q n2 m) (hoff : off ≤ 9223372036854775807) : Calls Try.prog 14 #[.slice p n1 c1, .slice q n2 c2, .int .i64 off, .int .i64 most] w (NearP w (ringsC m n1 n2 (decide (off < 0) || decide (most < 0)) most) r m (min n1 n2) off most) := by
  obtain ⟨C, hC⟩ : ∃ C, ringsC m n1 n2 (decide (off < 0) || decide (most < 0)) most = C := ⟨_, rfl⟩
  have H35 : Hid (∀ w, IR w p n1 r → IR w q n2 m → Calls Try.prog 31 #[.slice p n1 c1, .slice q n2 c2, .bool (decide (off < 0) || decide (most < 0)), .int .i64 most] w fun e w' => (C ≠ 0 ∧ e = .returned (.tuple #[.slice none 0 0, .int .i64 C]) ∧ Hid (Up w w')) ∨ (C = 0 ∧ RN w r m (min n1 n2) e w')) := fun w h1 h2 => by
    have := t31 p q n1 n2 c1 c2 r m (decide (off < 0) || decide (most < 0)) most w h1 h2
    rw [hC] at this
    exact this
  rw [hC]
  have HC : Hid (ringsC m n1 n2 (decide (off < 0) || decide (most < 0)) most = C) := hC
  have HR : Hid (IR w p n1 r) := hr
  have HM : Hid (IR w q n2 m) := hm
  obtain ⟨k, hk⟩ : ∃ k, min n1 n2 = k := ⟨_, rfl⟩
  have HK : Hid (min n1 n2 = k) := hk
  rw [hk] at H35 ⊢
  clear hC hr hm hk
  by_cases hc : C = 0
  · subst hc
    obtain ⟨o1, o2, o3, o4⟩ := ringsC_ok HC.out
    rw [HK.out] at o1 o2
    have hm1 : 0 ≤ most ∧ 0 ≤ off := by simp at o3; omega
    have hb1 : (decide (off < 0)) = false := by simp; omega
    have hb2 : (decide (most < 0)) = false := by simp; omega
    have HF : Hid (OKR (ringF r m k) k) := ringF_ok o2
    have HW : Hid (∀ x, wf (ringF r m k) k x = worst r m x k) := fun x => wf_ring (fun i hi => (o2 i hi).1) x
    have HW2 : Hid (nears r m k off most = nearL (fun (x : Nat) => wf (ringF r m k) k x) off most.toNat) := by
      show _ = _
      unfold nears
      congr 1
      funext x
      exact (HW.out x).symm
    have H35' : Hid (∀ w, IR w p n1 r → IR w q n2 m → Calls Try.prog 31 #[.slice p n1 c1, .slice q n2 c2, .bool false, .int .i64 most] w fun e w' => RN w r m k e w') := fun w h1 h2 => by
      have h := H35.out w h1 h2
      rw [hb1, hb2] at h
      exact h.mono fun e w' h => by
        rcases h with ⟨h, _⟩ | ⟨_, h⟩
        · exact absurd rfl h
        · exact h
    have HN : Hid (k ≤ 8) := o1
    have hmx : most ≤ 4194304 := o4
    obtain ⟨i0, hi, hz0, hz1, hz2⟩ := info_parts info2
    clear H35 HC HK o1 o2 o3 o4 HW
    go_enter Try.func14, Try.ntmps14
    go_wp2_with (first
      | (go_at_call 31; (with_reducible refine (H35'.out _ HR.out HM.out).mono ?_); rintro e w1 ⟨g, rfl, HG⟩)
      | (go_at_call 32; (with_reducible refine (t32 (ringF r m k) g k 0 off most _ HF.out HG.out.2.1 HN.out (by omega) (by omega) hmx).mono ?_); rintro e w2 ⟨a, rfl, HY⟩; have ha1 := HY.out.1.1; have ha2 := HY.out.1.2.1))
    have HG1 : Hid (RG w1 g k (ringF r m k) ∧ Up w w1) := ⟨HG.out.2.1, HG.out.1⟩
    have HS : Hid (NL (ringF r m k) k off most w1 a (.slice none 0 0) [] w2) := by
      refine ⟨?_, HY.out.1.2.2.2, OI.nil _ _, HY.out.2⟩
      have : nearL (fun (x : Nat) => wf (ringF r m k) k x) off (min a.toNat most.toNat) = nearL (fun (x : Nat) => wf (ringF r m k) k x) off 0 := nearL_to (by omega) fun j h1 h2 => HY.out.1.2.2.1 j (by omega) (by omega)
      rw [this]; rfl
    clear HG HR HM H35' HY
    go_loopw [8, 11] (fun v8 v11 wr => ∃ (p : Option Addr) (cap : Nat) (d : List Int) (a : Int), v8 = .slice p d.length cap ∧ v11 = .int .i64 a ∧ 0 ≤ a ∧ a ≤ 4398046511104 ∧ d.length ≤ 65536 ∧ Hid (NL (ringF r m k) k off most w1 a (.slice p d.length cap) d wr)) (fun _ v11 _ => (most - intOf v11).toNat)
    case atStart => exact ⟨none, 0, [], a, rfl, rfl, ha1, ha2, by simp, HS⟩
    case round =>
      clear HS ha1 ha2
      obtain ⟨p', cap, d, b, rfl, rfl, b0, b1, hd, HL⟩ := hrel
      obtain ⟨l1, l2, l3, l4⟩ := HL.out
      have HU : Hid (Up w1 wr) := l4
      have HO : Hid (OI w1.heap.size wr (.slice p' d.length cap) d) := l3
      by_cases hlt : b < most
      · have HL1 : Hid ((nearL (fun (x : Nat) => wf (ringF r m k) k x) off (b.toNat + 1)).length = d.length + 1) := by
          have hc : ((b.toNat : Nat) : Int) = b := by omega
          show _ = _
          rw [nearL_succ, if_pos (by show wf (ringF r m k) k ((b.toNat : Nat) : Int) ≤ off; rw [hc]; exact l2 hlt), l1, show min b.toNat most.toNat = b.toNat by omega]
          simp
        clear l1 l2 l3 l4
        by_cases hf : d.length = 65536
        · have hfb : ((d.length : Int) == 65536) = true := by simp; omega
          go_wp2_with fail
          go_ret2
          have hlen : 65536 < (nears r m k off most).length := by
            rw [HW2.out]
            have := nearL_mono (W := fun (x : Nat) => wf (ringF r m k) k x) (off := off) (a := b.toNat + 1) (most.toNat - (b.toNat + 1))
            rw [show b.toNat + 1 + (most.toNat - (b.toNat + 1)) = most.toNat by omega, HL1.out] at this
            omega
          have hc3 : nearC 0 r m k off most = 3 := by unfold nearC; rw [if_neg (by decide), if_pos hlen]
          exact ⟨HG1.out.2.trans HU.out, Or.inl ⟨by rw [hc3]; decide, by rw [hc3]; rfl⟩⟩
        · have hfb : ((d.length : Int) == 65536) = false := by simp; omega
          have hdl : d.length ≤ 65535 := by omega
          have hsz := HU.out.size
          go_wp2_with (first
            | (at_builtin; refine wpList_append_own _ rfl _ _ 36 rfl w1.heap.size 2 i0 (.int .i64 0) 1 8 Try.underlying36 hi hz0 hz1 hz2 rfl (by decide) _ _ _ rfl (HO.out.alloc _) ⟨wr.heap.size, 0, none⟩ 1 1 [.int .i64 b] rfl rfl (one_new _ _ _) (one_one _) (by unfold maxLen; omega) (by omega) (by simp; omega) ?_; intro v2 w3 h2 hg2 _; have HO2 : Hid (OI w1.heap.size w3 v2 (d ++ [b]) ∧ Up w1 w3) := app_own HO.out HU.out h2 hg2; clear h2 hg2)
            | (go_at_call 32; (with_reducible refine (t32 (ringF r m k) g k (b + 1) off most _ HF.out (HG1.out.1.up HO2.out.2) HN.out (by omega) (by omega) hmx).mono ?_); rintro e w4 ⟨c, rfl, HY⟩))
          obtain ⟨p2, cap2, hv, _⟩ := own_form HO2.out.1
          subst hv
          have y1 := HY.out.1.1
          have y2 := HY.out.1.2.1
          go_roundw
          case rel => exact ⟨p2, cap2, d ++ [b], c, rfl, rfl, by omega, y2, by simp; omega, HL.out.next b0 hlt HY.out.1 (HO2.out.1.up HY.out.2) (HO2.out.2.trans HY.out.2)⟩
          case measure => simp [intOf]; omega
      · have he : nears r m k off most = d := by rw [HW2.out, l1, show min b.toNat most.toNat = most.toNat by omega]
        have HE : Hid (nears r m k off most = d) := he
        clear l1 l2 l3 l4 he
        go_wp2
        go_ret2
        have hc0 : nearC 0 r m k off most = 0 := by unfold nearC; rw [if_neg (by decide), HE.out, if_neg (by omega)]
        exact ⟨HG1.out.2.trans HU.out, Or.inr ⟨hc0, _, rfl, by rw [HE.out]; exact HO.out.base HG1.out.2.size⟩⟩
  · have hcb : (C != 0) = true := by simp [hc]
    have hcn : nearC C r m k off most = C := by unfold nearC; rw [if_pos hc]
    have HCN : Hid (nearC C r m k off most = C) := hcn
    have H35' : Hid (∀ w, IR w p n1 r → IR w q n2 m → Calls Try.prog 31 #[.slice p n1 c1, .slice q n2 c2, .bool (decide (off < 0) || decide (most < 0)), .int .i64 most] w fun e w' => e = .returned (.tuple #[.slice none 0 0, .int .i64 C]) ∧ Hid (Up w w')) := fun w h1 h2 => (H35.out w h1 h2).mono fun e w' h => by
      rcases h with ⟨_, h⟩ | ⟨h, _⟩
      · exact h
      · exact absurd h hc
    clear H35 HC HK hcn
    by_cases ho : off < 0
    · have hb1 : (decide (off < 0)) = true := by simpa using ho
      rw [hb1, Bool.true_or] at H35'
      go_enter Try.func14, Try.ntmps14
      go_wp2_with (go_at_call 31; (with_reducible refine (H35'.out _ HR.out HM.out).mono ?_); rintro e w1 ⟨rfl, HU⟩)
      go_ret2
      exact ⟨HU, Or.inl ⟨by rw [HCN.out]; exact hc, by rw [HCN.out]; rfl⟩⟩
    · have hb1 : (decide (off < 0)) = false := by simp; omega
      rw [hb1, Bool.false_or] at H35'
      go_enter Try.func14, Try.ntmps14
      go_wp2_with (go_at_call 31; (with_reducible refine (H35'.out _ HR.out HM.out).mono ?_); rintro e w1 ⟨rfl, HU⟩)
      go_ret2
      exact ⟨HU, Or.inl ⟨by rw [HCN.out]; exact hc, by rw [HCN.out]; rfl⟩⟩
end Go.Proofs.Ytijfmaepoamkgab.Fo

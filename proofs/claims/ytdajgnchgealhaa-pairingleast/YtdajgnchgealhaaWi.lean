/- The law's try. -/
import Derived.Test.YtdajgnchgealhaaWh
namespace Go.Proofs.Ytdajgnchgealhaa
open Go.ChangeShapes Go.WideShapes Go.ChangeAt Go.RowKit
attribute [local go_sem] isSome_set

theorem info3p : ∃ i, Try.prog.info? 3 = some i ∧ i.zero = some (.int .i64 0) ∧ i.size = 1 ∧ i.bytes = 8 := by
  obtain ⟨i, h1, h2⟩ := Option.map_eq_some_iff.1 info3'
  simp only [Prod.mk.injEq] at h2
  exact ⟨i, h1, h2.1, h2.2.1, h2.2.2⟩
/-- What is chosen so far. -/
structure PF (N M : Nat) (R : Nat → Nat) (T : Nat → Nat → Int) (wh : Bool) (i : Nat) (us : Nat → Bool) (mt : Nat → Int) : Prop where
  p : IsP i R T mt
  u : ∀ j, j < M → (us j = true ↔ ∃ i', i' < i ∧ mt i' = (j : Nat))
  f : wh = true → ∀ i', i' < i → mt i' ≠ -1
theorem PF.mate {N M : Nat} {R : Nat → Nat} {T : Nat → Nat → Int} {wh : Bool} {i j : Nat} {us : Nat → Bool} {mt : Nat → Int} (h : PF N M R T wh i us mt) (hj : j < R i) (hT : 0 ≤ T i j) (hM : R i = M) (hu : us j = false) : PF N M R T wh (i + 1) (updB us j true) (upd mt i j) := by
  have hno : ∀ i', i' < i → mt i' ≠ (j : Nat) := fun i' hi' e => by
    have := (h.u j (by omega)).2 ⟨i', hi', e⟩
    rw [hu] at this
    exact absurd this (by decide)
  refine ⟨⟨fun a ha => ?_, fun a b ha hb he hne => ?_⟩, fun k hk => ?_, fun e a ha => ?_⟩
  · by_cases e : a = i
    · subst e; exact Or.inr ⟨j, upd_at _ _ _, hj, hT⟩
    · rw [upd_ne _ _ e]; exact h.p.at' a (by omega)
  · by_cases e1 : a = i
    · by_cases e2 : b = i
      · omega
      · rw [e1, upd_at, upd_ne _ _ e2] at he
        exact absurd he.symm (hno b (by omega))
    · by_cases e2 : b = i
      · rw [e2, upd_at, upd_ne _ _ e1] at he
        exact absurd he (hno a (by omega))
      · rw [upd_ne _ _ e1] at hne
        rw [upd_ne _ _ e1, upd_ne _ _ e2] at he
        exact h.p.inj a b (by omega) (by omega) he hne
  · show (if k = j then true else us k) = true ↔ _
    by_cases e : k = j
    · subst e
      rw [if_pos rfl]
      exact ⟨fun _ => ⟨i, by omega, upd_at _ _ _⟩, fun _ => rfl⟩
    · rw [if_neg e, h.u k hk]
      constructor
      · rintro ⟨a, h1, h2⟩
        exact ⟨a, by omega, by rw [upd_ne _ _ (by omega)]; exact h2⟩
      · rintro ⟨a, h1, h2⟩
        by_cases e2 : a = i
        · rw [e2, upd_at] at h2; omega
        · rw [upd_ne _ _ e2] at h2; exact ⟨a, by omega, h2⟩
  · by_cases e2 : a = i
    · rw [e2, upd_at]; omega
    · rw [upd_ne _ _ e2]; exact h.f e a (by omega)
theorem PF.none {N M : Nat} {R : Nat → Nat} {T : Nat → Nat → Int} {i : Nat} {us : Nat → Bool} {mt : Nat → Int} (h : PF N M R T false i us mt) : PF N M R T false (i + 1) us (upd mt i (-1)) := by
  refine ⟨⟨fun a ha => ?_, fun a b ha hb he hne => ?_⟩, fun k hk => ?_, fun e => absurd e (by decide)⟩
  · by_cases e : a = i
    · subst e; exact Or.inl (upd_at _ _ _)
    · rw [upd_ne _ _ e]; exact h.p.at' a (by omega)
  · by_cases e1 : a = i
    · exact absurd (by rw [e1, upd_at]) hne
    · by_cases e2 : b = i
      · exact absurd (by rw [he, e2, upd_at]) hne
      · rw [upd_ne _ _ e1] at hne
        rw [upd_ne _ _ e1, upd_ne _ _ e2] at he
        exact h.p.inj a b (by omega) (by omega) he hne
  · rw [h.u k hk]
    constructor
    · rintro ⟨a, h1, h2⟩
      exact ⟨a, by omega, by rw [upd_ne _ _ (by omega)]; exact h2⟩
    · rintro ⟨a, h1, h2⟩
      by_cases e2 : a = i
      · rw [e2, upd_at] at h2; omega
      · rw [upd_ne _ _ e2] at h2; exact ⟨a, by omega, h2⟩
theorem PF.same {N M : Nat} {R : Nat → Nat} {T : Nat → Nat → Int} {wh : Bool} {i : Nat} {us : Nat → Bool} {mt mt' : Nat → Int} (h : PF N M R T wh i us mt) (he : ∀ i', i' < i → mt' i' = mt i') : PF N M R T wh i us mt' := by
  refine ⟨h.p.congr (fun a ha => (he a ha).symm), fun k hk => ?_, fun e a ha => by rw [he a ha]; exact h.f e a ha⟩
  rw [h.u k hk]
  exact ⟨fun ⟨a, h1, h2⟩ => ⟨a, h1, by rw [he a h1]; exact h2⟩, fun ⟨a, h1, h2⟩ => ⟨a, h1, by rw [← he a h1]; exact h2⟩⟩
theorem updB_back {us : Nat → Bool} {j : Nat} (h : us j = false) : updB (updB us j true) j false = us := by
  funext k
  unfold updB
  by_cases e : k = j
  · rw [if_pos e, e, h]
  · rw [if_neg e, if_neg e]
/-- What try leaves. -/
def TryR (w0 : World) (p : Option Addr) (cap N M : Nat) (R : Nat → Nat) (T : Nat → Nat → Int) (wh : Bool) (L : BL) (i : Nat) (us : Nat → Bool) (mt : Nat → Int) (fd : Bool) (f : Nat → Int) (e : Ending) (w' : World) : Prop :=
  ∃ (mt' : Nat → Int) (fd' : Bool) (f' : Nat → Int), e = .returned (.tuple #[]) ∧ Hid (BS w0 w' p cap N M T L us mt' fd' f') ∧ Hid ((∀ i', i' < i → mt' i' = mt i') ∧ Adv N R T wh (fun g => ∀ i', i' < i → g i' = mt i') fd fd' f f')
/-- At the end of a list. -/
theorem Adv.leaf {N : Nat} {R : Nat → Nat} {T : Nat → Nat → Int} {wh fd fd' : Bool} {f f' mt : Nat → Int} (hm : Cand N R T wh mt) (hc : fd = true → Cand N R T wh f) (h : (fd' = true ∧ f' = mt ∧ (fd = true → Bt N T mt f)) ∨ (fd' = true ∧ fd = true ∧ f' = f ∧ Bt N T f mt)) : Adv N R T wh (fun g => ∀ i', i' < N → g i' = mt i') fd fd' f f' := by
  rcases h with ⟨h1, rfl, h3⟩ | ⟨h1, h2, rfl, h3⟩
  · exact ⟨fun _ => hm, fun g _ he => ⟨h1, (Bt.refl _ _ _).congr (fun _ _ => rfl) (fun i hi => (he i hi).symm)⟩, fun e => ⟨h1, h3 e⟩⟩
  · exact ⟨fun _ => hc h2, fun g _ he => ⟨h1, h3.congr (fun _ _ => rfl) (fun i hi => (he i hi).symm)⟩, fun _ => ⟨h1, Bt.refl _ _ _⟩⟩
set_option maxRecDepth 20000 in
set_option maxHeartbeats 2000000 in
theorem t29leaf {w0 w : World} {p : Option Addr} {cap N M : Nat} {R : Nat → Nat} {T : Nat → Nat → Int} {wh : Bool} {L : BL} {us : Nat → Bool} {mt : Nat → Int} {fd : Bool} {f : Nat → Int} (h : BS w0 w p cap N M T L us mt fd f) (hN : 0 < N) (hN5 : N ≤ 5) (hp : PF N M R T wh N us mt) (hc : fd = true → Cand N R T wh f) : Calls Try.prog 29 #[.pointer (some ⟨L.s, 0, none⟩), .int .i64 N, .int .i64 (cnt N mt), .int .i64 (tot N T mt), .bool wh] w (TryR w0 p cap N M R T wh L N us mt fd f) := by
  have HB : Hid (BS w0 w p cap N M T L us mt fd f) := h
  have HCM : Hid (Cand N R T wh mt) := ⟨hp.p, hp.f⟩
  have HCF : Hid (fd = true → Cand N R T wh f) := hc
  have c0 := h.c0
  have hNN : ((N : Int) == (N : Int)) = true := by simp
  obtain ⟨x4, a4, b4⟩ := h.c4
  obtain ⟨x5, a5, b5⟩ := h.c5
  obtain ⟨q6, l6, cc6, a6, b6⟩ := h.c6
  have c2 := h.c2
  have c3 := h.c3
  have HB4 : Hid (fd = true → x4 = cnt N f) := b4
  have HB5 : Hid (fd = true → x5 = tot N T f) := b5
  have HB6 : Hid (fd = true → ∃ g, q6 = some ⟨g, 0, none⟩ ∧ l6 = N ∧ g ≠ L.s ∧ g ≠ L.u ∧ g ≠ L.m ∧ ∀ i, i < N → w.cell? ⟨g, i, none⟩ = some (.int .i64 (f i))) := b6
  obtain ⟨P, hP⟩ : ∃ P, cnt N mt = P := ⟨_, rfl⟩
  obtain ⟨Q, hQ⟩ : ∃ Q, tot N T mt = Q := ⟨_, rfl⟩
  have HP : Hid (cnt N mt = P) := hP
  have HQ : Hid (tot N T mt = Q) := hQ
  rw [hP, hQ]
  obtain ⟨i3, hi3, hz3, hs3, hb3⟩ := info3p
  clear h hp hc b4 b5 b6 hP hQ
  go_enter Try.func29, Try.ntmps29
  go_upto_region 1 with fail
  go_cut [10] from 19 to 66 (fun v10 wx => ∃ (z : Bool) (q : Nat), v10 = .bool z ∧ wx = w.drewN q ∧ Hid ((z = true → fd = true → Bt N T mt f) ∧ (z = false → fd = true ∧ Bt N T f mt)))
  case first =>
    cases fd with
    | false =>
      go_quiet (fail)
      go_wp2_with fail
      go_meet
      case rel => exact ⟨true, _, rfl, rfl, fun _ e => absurd e (by decide), fun e => absurd e (by decide)⟩
    | true =>
      have e4 := HB4.out rfl
      have e5 := HB5.out rfl
      obtain ⟨g6, rfl, hl6, g1, g2, g3, g4⟩ := HB6.out rfl
      have HE4 : Hid (x4 = cnt N f) := e4
      have HE5 : Hid (x5 = tot N T f) := e5
      clear e4 e5
      rcases (show x4 < P ∨ P < x4 ∨ P = x4 by omega) with h1 | h1 | h1
      · have HZ : Hid (Bt N T mt f) := Or.inl (by rw [HP.out, ← HE4.out]; exact h1)
        clear g4 hl6
        go_quiet (fail)
        go_wp2_with fail
        go_meet
        case rel => exact ⟨true, _, rfl, rfl, fun _ _ => HZ.out, fun e => absurd e (by decide)⟩
      · have HZ : Hid (Bt N T f mt) := Or.inl (by rw [HP.out, ← HE4.out]; exact h1)
        have d1 : decide (x4 < P) = false := decide_eq_false (by omega)
        have d2 : (P == x4) = false := beq_false_of_ne (by omega)
        clear g4 hl6
        go_quiet (fail)
        go_wp2_with fail
        go_meet
        case rel => exact ⟨false, _, rfl, rfl, fun e => absurd e (by decide), fun _ => ⟨by first | rfl | trivial, HZ.out⟩⟩
      · have d1 : decide (x4 < P) = false := decide_eq_false (by omega)
        have d2 : (P == x4) = true := by simp [h1]
        have HH1 : Hid (P = x4) := h1
        clear h1
        rcases (show Q < x5 ∨ x5 < Q ∨ Q = x5 by omega) with h2 | h2 | h2
        · have HZ : Hid (Bt N T mt f) := Or.inr ⟨by rw [HP.out, ← HE4.out]; exact HH1.out.symm, Or.inl (by rw [HQ.out, ← HE5.out]; exact h2)⟩
          clear g4 hl6
          go_quiet (fail)
          go_wp2_with fail
          go_meet
          case rel => exact ⟨true, _, rfl, rfl, fun _ _ => HZ.out, fun e => absurd e (by decide)⟩
        · have HZ : Hid (Bt N T f mt) := Or.inr ⟨by rw [HP.out, ← HE4.out]; exact HH1.out, Or.inl (by rw [HQ.out, ← HE5.out]; exact h2)⟩
          have d3 : decide (Q < x5) = false := decide_eq_false (by omega)
          have d4 : (Q == x5) = false := beq_false_of_ne (by omega)
          clear g4 hl6
          go_quiet (fail)
          go_wp2_with fail
          go_meet
          case rel => exact ⟨false, _, rfl, rfl, fun e => absurd e (by decide), fun _ => ⟨by first | rfl | trivial, HZ.out⟩⟩
        · have d3 : decide (Q < x5) = false := decide_eq_false (by omega)
          have d4 : (Q == x5) = true := by simp [h2]
          have HH2 : Hid (Q = x5) := h2
          subst hl6
          obtain ⟨z, ⟨z1, z2⟩, cz⟩ := t39f l6 mt f (by omega)
          have C39 : Hid (∀ k, Calls Try.prog 39 #[.slice (some ⟨L.m, 0, none⟩) l6 l6, .slice (some ⟨g6, 0, none⟩) l6 cc6] (w.drewN k) fun e w' => e = .returned (.bool z) ∧ ∃ k', w' = (w.drewN k).drewN k') := fun k => cz _ _ _ _ _ (fun i hi => ⟨L.m, 0, rfl, by rw [Nat.zero_add]; exact HB.out.m i hi⟩) (fun i hi => ⟨g6, 0, rfl, by rw [Nat.zero_add]; exact g4 i hi⟩)
          have HZ1 : Hid (z = true → Bt l6 T mt f) := fun e => Or.inr ⟨by rw [HP.out, ← HE4.out]; exact HH1.out.symm, Or.inr ⟨by rw [HQ.out, ← HE5.out]; exact HH2.out, z1 e⟩⟩
          have HZ2 : Hid (z = false → Bt l6 T f mt) := fun e => Or.inr ⟨by rw [HP.out, ← HE4.out]; exact HH1.out, Or.inr ⟨by rw [HQ.out, ← HE5.out]; exact HH2.out.symm, z2 e⟩⟩
          clear g4 h2 z1 z2 cz
          go_quiet (first | (go_at_call 39; (with_reducible refine Calls.quiet_of (C39.out _))))
          go_wp2_with fail
          go_meet
          case rel => exact ⟨z, _, rfl, by first | rfl | trivial, fun e _ => HZ1.out e, fun e => ⟨by first | rfl | trivial, HZ2.out e⟩⟩
  case rest =>
    obtain ⟨z, q, rfl, hw, HZ⟩ := hcut
    subst hw
    cases z with
    | false =>
      obtain ⟨z1, z2⟩ := HZ.out.2 rfl
      have HD : Hid (Adv N R T wh (fun g => ∀ i', i' < N → g i' = mt i') fd fd f f) := Adv.leaf HCM.out HCF.out (Or.inr ⟨z1, z1, rfl, z2⟩)
      clear z1 z2
      go_wp2_with fail
      (try simp only [Exit.inBlock, Exit.then])
      refine bodyPost_ret (results_none rfl _ _ _) rfl ?_
      exact ⟨mt, fd, f, rfl, HB.out.drewN q, fun _ _ => rfl, HD.out⟩
    | true =>
      have HD : Hid (Adv N R T wh (fun g => ∀ i', i' < N → g i' = mt i') fd true f mt) := Adv.leaf HCM.out HCF.out (Or.inl ⟨rfl, rfl, HZ.out.1 rfl⟩)
      have fz3 := (HB.out.fz 3).1
      have fz4 := (HB.out.fz 4).1
      have fz5 := (HB.out.fz 5).1
      have fz6 := (HB.out.fz 6).1
      have NW : Hid (∀ (j : Nat) (u : Value), ((List.range N).map fun i => Value.int .i64 (mt i))[j]? = some u → ((((w.drewN q).setCell ⟨L.s, 3, none⟩ (.bool true)).setCell ⟨L.s, 4, none⟩ (.int .i64 P)).setCell ⟨L.s, 5, none⟩ (.int .i64 Q)).cell? ((⟨L.m, 0, none⟩ : Addr).add j) = some u) := fun j u hj => by
        have hjN : j < N := by
          have := (List.getElem?_eq_some_iff.1 hj).1
          simpa using this
        rw [List.getElem?_map, List.getElem?_range hjN] at hj
        simp only [Option.map_some, Option.some.injEq] at hj
        subst hj
        rw [Addr.add_lit, Nat.zero_add]
        have n2 := HB.out.ne.2.1.symm
        exact cell_other (cell_other (cell_other (HB.out.m j hjN) (Or.inl n2)) (Or.inl n2)) (Or.inl n2)
      have HFO : Hid (∀ v' w', w'.ownsRow w.heap.size 3 1 v' N ((List.range N).map fun i => Value.int .i64 (mt i)) → ((((w.drewN q).setCell ⟨L.s, 3, none⟩ (.bool true)).setCell ⟨L.s, 4, none⟩ (.int .i64 P)).setCell ⟨L.s, 5, none⟩ (.int .i64 Q)).grownBy w' none → BS w0 (w'.setCell ⟨L.s, 6, none⟩ v') p cap N M T L us mt true mt) := fun v' w' hown hgr => (HB.out.drewN q).found hN rfl hown (by rw [HP.out, HQ.out]; exact hgr)
      have HK6 : Hid (∀ w', ((((w.drewN q).setCell ⟨L.s, 3, none⟩ (.bool true)).setCell ⟨L.s, 4, none⟩ (.int .i64 P)).setCell ⟨L.s, 5, none⟩ (.int .i64 Q)).grownBy w' none → w'.cell? ⟨L.s, 6, none⟩ = some (.slice q6 l6 cc6) ∧ w'.frozen? ⟨L.s, 6, none⟩ = false) := fun w' hgr => by
        have sl : L.s < w.heap.size := World.block_lt_of_cell? w _ HB.out.c0
        refine ⟨hgr.cell (cell_other (cell_other (cell_other a6 (Or.inr (by simp))) (Or.inr (by simp))) (Or.inr (by simp))) (by simp), ?_⟩
        rw [World.frozen?_of_block (hgr.block L.s (by rw [World.size_setCell, World.size_setCell, World.size_setCell]; exact sl) (by simp)), World.frozen?_setCell, World.frozen?_setCell, World.frozen?_setCell]
        exact fz6
      go_wp2_with (first | (at_builtin; refine wpList_append_grows _ rfl _ _ 23 rfl 3 i3 (.int .i64 0) 1 8 (by kernel_rfl) hi3 hz3 hs3 hb3 rfl (by decide) none 0 0 [] rfl (fun _ => ⟨rfl, rfl⟩) rfl (fun b hb => by cases hb) ⟨L.m, 0, none⟩ N N ((List.range N).map fun i => Value.int .i64 (mt i)) rfl (by simp) NW.out (fun u hu => by obtain ⟨a, _, rfl⟩ := List.mem_map.1 hu; rfl) (by omega) (by unfold maxLen; omega) (by omega) ?_))
      intro v' w' hown hgr
      have hown2 : w'.ownsRow w.heap.size 3 1 v' N ((List.range N).map fun i => Value.int .i64 (mt i)) := by simpa using hown
      obtain ⟨gv, cv, rfl⟩ : ∃ (g : Nat) (c : Nat), v' = .slice (some ⟨g, 0, none⟩) N c := by
        rcases hown2.2 with ⟨_, e⟩ | ⟨g, c, _, e, _⟩
        · omega
        · exact ⟨g, c, e⟩
      have HBF : Hid (BS w0 (w'.setCell ⟨L.s, 6, none⟩ (.slice (some ⟨gv, 0, none⟩) N cv)) p cap N M T L us mt true mt) := HFO.out _ w' hown2 hgr
      have k6 := (HK6.out w' hgr).1
      have f6 := (HK6.out w' hgr).2
      clear hown hown2 hgr
      go_wp2_with fail
      (try simp only [Exit.inBlock, Exit.then])
      refine bodyPost_ret (results_none rfl _ _ _) rfl ?_
      exact ⟨mt, true, mt, rfl, HBF, fun _ _ => rfl, HD.out⟩
end Go.Proofs.Ytdajgnchgealhaa

/- The spots that count: the walk. -/
import Derived.Test.YtephkmahnbhmbaaQg
namespace Go.Proofs.Ytephkmahnbhmbaa
open Go.ChangeShapes Go.WideShapes Go.ChangeAt Go.RowKit Go.Fl Go.Sort Go.Shelf Go.Lib
attribute [local go_sem] run_store_float call52 run_neg fold_eq fold_ne fold_lt fold_gt abs_eq eqg57

theorem fit_ix {d : Array Spt} {n : Nat} (hd : d.size = n) (hW : ∀ i, i < n → Wf d[i]!) (hn : n < 18446744073709551616) : Fit2 (withIx d) := fun i hi => by
  rw [withIx_size] at hi
  rw [withIx_get hi]
  exact ⟨hW i (by omega), by show i < _; omega⟩
theorem rise_ix {d : Array Spt} {n : Nat} (hd : d.size = n) : Rise 0 n (withIx d) := fun i j _ hij hj => by
  rw [withIx_get (by omega), withIx_get (by omega)]; exact hij
/-- Sorted in place. -/
theorem t57o {w : World} {g cap N : Nat} {d : Array Spt} (HS : Sorts N) (h : OwnR w g cap d) (hd : d.size = N) (hW : ∀ i, i < N → Wf d[i]!) (hN : N < 4611686018427387904) :
    Calls Try.prog 57 #[.slice (some ⟨g, 0, none⟩) N cap, .func (.func 58) #[] #[]] w fun e w' => e = .returned (.tuple #[]) ∧ ∃ d1, Hid (OwnR w' g cap d1 ∧ d1.size = N ∧ CntOf d.toList (cptN d1 N)) ∧ Hid (Kp (fun k => k ≠ g) w w') := by
  refine (HS g 0 cap (withIx d) w (by rw [withIx_size, hd]) h.holds h.lt (fit_ix hd hW (by omega)) (rise_ix hd)).mono ?_
  rintro e w' ⟨rfl, d', S, hP, hS⟩
  have hs : d'.size = d.size := by rw [hP.1, withIx_size]
  obtain ⟨r1, r2⟩ := h.sorted hs S
  exact ⟨rfl, d'.map (·.1), ⟨r1, by simp; omega, cnt_sorted hd hW (by omega) hP hS⟩, r2⟩
theorem three_at (w : World) (a b c : Value) (t : TypeId) {n : Nat} (hn : n = w.heap.size) : ∀ (j : Nat) (u : Value), [a, b, c][j]? = some u → (w.alloc (.cells #[a, b, c] t)).cell? ((⟨n, 0, none⟩ : Addr).add j) = some u := by
  subst hn; exact three_new w a b c t
theorem mem_get {L : List Spt} {i : Nat} (h : i < L.length) : L.toArray[i]! ∈ L := by
  have : L.toArray[i]! = L[i] := by simp [getElem!_pos L i h]
  rw [this]; exact List.getElem_mem _
set_option maxRecDepth 20000 in
set_option maxHeartbeats 4000000 in
theorem t34 {w : World} {p : Option Addr} {n cap : Nat} {d : Array Spt} {bins : Int} (HS : ∀ m, m ≤ n → Sorts m) (h : SpV w p n cap d) : Calls Try.prog 34 #[.slice p n cap, .int .i64 bins] w (SR w (cntF (keptN d bins n))) := by
  have H : Hid (SpV w p n cap d) := h
  have HSO : Hid (∀ m, m ≤ n → Sorts m) := HS
  obtain ⟨i0, hi0, hz0, hz1, hz2⟩ := info_parts info29
  have hfew := h.few
  clear h HS
  go_enter Try.func34, Try.ntmps34
  go_wp2
  go_loopw [5, 7, 10] (fun v _ vi wr => ∃ (i M c : Nat) (q : Option Addr) (L : List Spt), v = .slice q M c ∧ vi = .int .i64 i ∧ i ≤ n ∧ M ≤ i ∧ Hid (L.length = M) ∧ Hid (L = keptN d bins i) ∧ Hid (SO w.heap.size wr (.slice q M c) L) ∧ Hid (Up w wr) ∧ Hid (M = 0 → q = none ∧ c = 0)) (fun _ _ vi _ => n - (intOf vi).toNat)
  case atStart => exact ⟨0, 0, 0, none, [], rfl, rfl, by omega, by omega, rfl, rfl, SO.nil _ _, Up.refl _, fun _ => ⟨rfl, rfl⟩⟩
  case round =>
    obtain ⟨i, M, c, q, L, rfl, rfl, hin, hM, HM, HL, HO, HU, HZ⟩ := hrel
    rename World => W
    by_cases hlt : i < n
    · obtain ⟨b, o, hpe, hr⟩ := (H.out.up HU.out).rd (by omega)
      subst hpe
      obtain ⟨k0, k1, k2⟩ := hr i hlt
      obtain ⟨s, hs⟩ : ∃ s, d[i]! = s := ⟨_, rfl⟩
      rw [hs] at k0 k1 k2
      obtain ⟨s1, s2, s3⟩ := s
      simp only at k0 k1 k2
      have HSS : Hid (d[i]! = (s1, s2, s3)) := hs
      have hl3 : (i : Int) < (n : Int) := by omega
      clear hs hr
      obtain ⟨f, hf⟩ : ∃ f, kpB bins (s1, s2, s3) = f := ⟨_, rfl⟩
      have HF : Hid (kpB bins (s1, s2, s3) = f) := hf
      have HU1 : Hid (Up w (W.alloc (.cells #[.int .i64 s1, .int .i64 s2, .float .f64 s3] 29))) := HU.out.trans (Up.alloc _ _)
      have HO1 : Hid (SO w.heap.size (W.alloc (.cells #[.int .i64 s1, .int .i64 s2, .float .f64 s3] 29)) (.slice q M c) L) := HO.out.up (Up.alloc _ _)
      cases f
      · have hcase : ¬ (0 ≤ s1 ∧ s1 < bins ∧ 0 ≤ s2) := by
          intro hc
          simp [kpB] at hf
          omega
        clear hf
        have HCA : Hid (¬ (0 ≤ s1 ∧ s1 < bins ∧ 0 ≤ s2)) := hcase
        clear hcase
        by_cases g1 : 0 ≤ s1
        · by_cases g2 : s1 < bins
          · have g3 : ¬ 0 ≤ s2 := fun g3 => HCA.out ⟨g1, g2, g3⟩
            go_wp2
            go_roundw
            case rel => exact ⟨i + 1, M, c, q, L, rfl, by go_num, by omega, by omega, HM, by show _ = _; rw [keptN, HSS.out, HF.out, HL.out]; simp, HO1, HU1, HZ⟩
            case measure => simp [intOf]; omega
          · go_wp2
            go_roundw
            case rel => exact ⟨i + 1, M, c, q, L, rfl, by go_num, by omega, by omega, HM, by show _ = _; rw [keptN, HSS.out, HF.out, HL.out]; simp, HO1, HU1, HZ⟩
            case measure => simp [intOf]; omega
        · go_wp2
          go_roundw
          case rel => exact ⟨i + 1, M, c, q, L, rfl, by go_num, by omega, by omega, HM, by show _ = _; rw [keptN, HSS.out, HF.out, HL.out]; simp, HO1, HU1, HZ⟩
          case measure => simp [intOf]; omega
      · simp [kpB] at hf
        obtain ⟨⟨g1, g2⟩, g3⟩ := hf
        have hown : (W.alloc (.cells #[.int .i64 s1, .int .i64 s2, .float .f64 s3] 29)).ownsRow w.heap.size 29 3 (.slice q M c) M (L.flatMap spC) := by
          have := HO1.out; unfold SO at this; rw [HM.out] at this; exact this
        have sz : w.heap.size ≤ W.heap.size := RowKit.Below.size HU.out
        go_wp2_with (first
          | (at_builtin; refine wpList_append_own _ rfl _ _ 25 rfl w.heap.size 29 i0 (.agg #[.int .i64 0, .int .i64 0, .float .f64 0]) 3 24 Try.underlying25 hi0 hz0 hz1 hz2 rfl (by decide) _ _ _ rfl (hown.alloc _) ⟨W.heap.size + 1, 0, none⟩ 1 1 [.int .i64 s1, .int .i64 s2, .float .f64 s3] rfl rfl (three_at _ _ _ _ _ (by simp)) (three_one rfl rfl rfl) (by unfold maxLen; omega) (by omega) (by simp; omega) ?_))
        intro v' w6 hown' hgrow _
        have R3 := so_push (s := (s1, s2, s3)) (Nat.le_refl _) HM.out hown HU1.out hown' hgrow
        have U6 : Hid (Up w w6) := R3.2
        obtain ⟨p', c', hv, _⟩ := own_form hown'
        subst hv
        have S6 : Hid (SO w.heap.size w6 (.slice p' (M + 1) c') (L ++ [(s1, s2, s3)])) := R3.1
        clear R3 hown' hgrow hown HO HO1 sz
        go_wp2
        go_roundw
        case rel => exact ⟨i + 1, M + 1, c', p', L ++ [(s1, s2, s3)], rfl, by go_num, by omega, by omega, by show _ = _; rw [List.length_append, HM.out]; rfl, by show _ = _; rw [keptN, HSS.out, HF.out, HL.out]; simp, S6, U6, fun h => by omega⟩
        case measure => simp [intOf]; omega
    · obtain rfl : i = n := by omega
      by_cases hM0 : M = 0
      · subst hM0
        have hL0 : L = [] := List.eq_nil_of_length_eq_zero HM.out
        obtain ⟨rfl, rfl⟩ := HZ.out rfl
        go_wp2_with (first
          | (go_at_call 57; (with_reducible refine (t57z _ _).mono ?_); rintro e w1 ⟨rfl, hw⟩; subst w1)
          | (go_at_call 59; (with_reducible refine (t59z _ _).mono ?_); rintro e w1 ⟨rfl, hw⟩; subst w1))
        go_ret
        rw [show cntF (keptN d bins i) = [] by rw [← HL.out, hL0]; rfl]
        exact ⟨none, 0, rfl, SO.nil _ _, HU.out⟩
      · have HW : Hid (∀ j, j < M → Wf L.toArray[j]!) := fun j hj => by
          have hm := mem_get (L := L) (i := j) (by rw [HM.out]; exact hj)
          rw [HL.out] at hm
          obtain ⟨_, x, x1, x2⟩ := keptN_mem hm
          have := H.out.wf x x1
          rw [x2] at this
          rw [HL.out]
          exact this
        obtain ⟨p', c', hv, hg⟩ := own_form HO.out
        rw [HM.out] at hv hg
        obtain ⟨g, rfl⟩ := hg (by omega)
        simp only [Value.slice.injEq] at hv
        obtain ⟨rfl, _, rfl⟩ := hv
        obtain ⟨OR, hgb, _⟩ := OwnR.of_so HO.out
        have C57 : Hid (Calls Try.prog 57 #[.slice (some ⟨g, 0, none⟩) M c, .func (.func 58) #[] #[]] W fun e w' => e = .returned (.tuple #[]) ∧ ∃ d1, Hid (OwnR w' g c d1 ∧ d1.size = M ∧ CntOf L (cptN d1 M)) ∧ Hid (Kp (fun k => k ≠ g) W w')) :=
          t57o (HSO.out M (by omega)) OR (by simpa using HM.out) HW.out (by omega)
        have HGB : Hid (w.heap.size ≤ g) := hgb
        clear OR hgb
        go_wp2_with (first
          | (go_at_call 57; (with_reducible refine C57.out.mono ?_); rintro e w1 ⟨rfl, d1, HR, HK⟩; (have C59 : Hid (Calls Try.prog 59 #[.slice (some ⟨g, 0, none⟩) M c, .func (.func 60) #[] #[]] w1 (CP w1 g c (cptN d1 M))) := t59 HR.out.1 HR.out.2.1 (by omega) (by omega)))
          | (go_at_call 59; (with_reducible refine C59.out.mono ?_); rintro e w2 ⟨m2, c2, rfl, HR2, HK2⟩))
        go_ret
        have e : cntF (keptN d bins i) = cptN d1 M := by rw [← HL.out]; exact (cntF_of L).uniq HR.out.2.2
        rw [e]
        obtain ⟨r1, r2, r3⟩ := HR2.out
        refine ⟨some ⟨g, 0, none⟩, c2, by rw [← r1]; rfl, ?_, ?_⟩
        · rw [← r1, r2]
          exact r3.so HGB.out r1.symm
        · exact (HU.out.trans2 HK.out (fun k hk => by have := HGB.out; omega)).trans2 HK2.out (fun k hk => by have := HGB.out; omega)
end Go.Proofs.Ytephkmahnbhmbaa

/- Map, the document's. -/
import Derived.Test.YtfggdaebahdnfaaKc
namespace Go.Proofs.Ytfggdaebahdnfaa
open Go.ChangeShapes Go.WideShapes Go.ChangeAt Go.RowKit Go.Fl Go.Sort
attribute [local go_sem] run_store_float run_store_func call35 call46 run_neg fold_eq fold_ne fold_lt fold_gt abs_eq

/-- Rows of unlike kinds lie in blocks of their own. -/
theorem kinds_apart {w : World} {b b' s s' n n' : Nat} {t t' : TypeId} {v v' : Value} {xs xs' : List Value} (h : w.ownsRow b t s v n xs) (h' : w.ownsRow b' t' s' v' n' xs') (ht : t ≠ t') {g : Nat} (hv : v.ownBlock = some g) : v'.ownBlock ≠ some g := by
  intro hv'
  rcases h.2 with ⟨rfl, _⟩ | ⟨g1, c1, cur1, rfl, _, e1, _⟩
  · cases hv
  rcases h'.2 with ⟨rfl, _⟩ | ⟨g2, c2, cur2, rfl, _, e2, _⟩
  · cases hv'
  simp only [Value.ownBlock, Option.some.injEq] at hv hv'
  subst hv
  subst hv'
  rw [e1] at e2
  simp only [Option.some.injEq, Obj.cells.injEq] at e2
  exact ht e2.2.1
theorem owns_grown {w w' : World} {b s n : Nat} {t : TypeId} {v : Value} {xs : List Value} {row : Option Nat} (h : w.ownsRow b t s v n xs) (hg : w.grownBy w' row) (hne : ∀ g, row = some g → v.ownBlock ≠ some g) : w'.ownsRow b t s v n xs := by
  have hl := h.lt
  obtain ⟨h1, h2⟩ := h
  refine ⟨h1, ?_⟩
  rcases h2 with h2 | ⟨g0, cap0, cur, rfl, k2, k3, k4⟩
  · exact Or.inl h2
  · refine Or.inr ⟨g0, cap0, cur, rfl, k2, ?_, k4⟩
    rw [hg.block g0 (hl g0 rfl).2 (fun e => hne g0 e.symm rfl)]; exact k3
theorem sv_nil (w : World) : SV w none 0 0 #[] := ⟨rfl, by omega, fun i hi => by simp at hi, fun h => by omega⟩
theorem lin_nil {w : World} {x : Nat} {way : Int} (g t m : Int) (h1 : -128 ≤ way) (h2 : way ≤ 127) : Calls Try.prog 16 #[.slice none 0 0, .int .i8 way, .int .i64 g, .int .i64 t, .int .i64 m, .float .f64 x] w fun e w' => ∃ p c, e = .returned (.tuple #[.slice p 0 c, .int .i64 (refE g t m x)]) ∧ Hid (Up w w') := by
  refine (t16 g t m h1 h2 (sv_nil w)).mono ?_
  rintro e w' ⟨p, c, he, _, hu⟩
  have e1 : linE (#[] : Array Nat).size g t m x = refE g t m x := by unfold linE; rw [if_neg (by simp)]
  have e2 : linD way g t m x #[] = [] := by
    unfold linD; split
    · rfl
    · rfl
  rw [e1, e2] at he
  exact ⟨p, c, he, hu⟩
theorem lin_row {w : World} {q : Option Addr} {c x : Nat} {d : Array Nat} {way g t m : Int} (h1 : -128 ≤ way) (h2 : way ≤ 127) (hE : refE g t m x = 0) (h : SV w q d.size c d) (hd : d.size ≤ 16384) : Calls Try.prog 16 #[.slice q d.size c, .int .i8 way, .int .i64 g, .int .i64 t, .int .i64 m, .float .f64 x] w fun e w' => ∃ p c, e = .returned (.tuple #[.slice p d.size c, .int .i64 0]) ∧ Hid (BR w.heap.size w' (.slice p d.size c) (linL way g.toNat t.toNat m.toNat (ab x) d)) ∧ Hid (Up w w') := by
  refine (t16 g t m h1 h2 h).mono ?_
  rintro e w' ⟨p, c, he, hb, hu⟩
  have e1 : linE d.size g t m x = 0 := by unfold linE; rw [if_neg (by omega), hE]
  have e2 : linD way g t m x d = linL way g.toNat t.toNat m.toNat (ab x) d := by unfold linD; rw [if_pos e1]
  rw [e1, e2, linL_len] at he
  rw [e2, linL_len] at hb
  exact ⟨p, c, he, hb, hu⟩
theorem linL_at {way : Int} {G T M : Nat} {x : Option Nat} {d : Array Nat} {k : Nat} (h : k < d.size) : (linL way G T M x d)[k]! = echoD way G T M x d k := by
  rw [getElem!_pos _ k (by rw [linL_len]; exact h)]; simp [linL]
set_option maxRecDepth 20000 in
set_option maxHeartbeats 8000000 in
theorem t18 {w : World} {p : Option Addr} {n cap x : Nat} {D : Nat → Array Nat} {way : Int} (g t m : Int) (h1 : -128 ≤ way) (h2 : way ≤ 127) (h : MV w p n cap D) :
    Calls Try.prog 18 #[.slice p n cap, .int .i8 way, .int .i64 g, .int .i64 t, .int .i64 m, .float .f64 x] w (MR w (echoD way g.toNat t.toNat m.toNat (ab x)) n D g t m x) := by
  have H : Hid (MV w p n cap D) := h
  obtain ⟨i0, hi0, hz0, hz1, hz2⟩ := info_parts info44
  have W1 : Hid (-128 ≤ way ∧ way ≤ 127) := ⟨h1, h2⟩
  obtain ⟨F, hF⟩ : ∃ F, echoD way g.toNat t.toNat m.toNat (ab x) = F := ⟨_, rfl⟩
  rw [hF]
  obtain ⟨ec, hec⟩ : ∃ c, refE g t m x = c := ⟨_, rfl⟩
  have HF : Hid (echoD way g.toNat t.toNat m.toNat (ab x) = F) := hF
  have HC : Hid (refE g t m x = ec) := hec
  have CN : Hid (∀ W, Calls Try.prog 16 #[.slice none 0 0, .int .i8 way, .int .i64 g, .int .i64 t, .int .i64 m, .float .f64 x] W fun e w' => ∃ p c, e = .returned (.tuple #[.slice p 0 c, .int .i64 ec]) ∧ Hid (Up W w')) := fun W => hec ▸ lin_nil g t m h1 h2
  clear h h1 h2 hF hec
  by_cases hn : 256 < n
  · have q : (256 : Int) < (n : Int) := by omega
    go_enter Try.func18, Try.ntmps18
    go_wp2
    go_ret2
    refine MR.bad ?_ (by decide) (Up.refl _)
    have e1 : mapE n D = 3 := by unfold mapE largeF; rw [decide_eq_true hn]; rfl
    unfold mpE; rw [e1, if_pos (by decide)]
  have q : ¬ (256 : Int) < (n : Int) := by omega
  go_enter Try.func18, Try.ntmps18
  go_wp2
  go_loopw [14, 15] (fun vs vi wr => ∃ i s : Nat, i ≤ n ∧ vs = .int .i64 s ∧ vi = .int .i64 i ∧ s ≤ 16384 * i ∧ Hid (s = sumS D i ∧ longF D i = false) ∧ wr = w) (fun _ vi _ => n - (intOf vi).toNat)
  case atStart => exact ⟨0, 0, by omega, rfl, rfl, by omega, ⟨rfl, rfl⟩, by trivial⟩
  case round =>
    obtain ⟨i, s, hin, rfl, rfl, hs, HS, hw⟩ := hrel
    subst hw
    rename World => w
    by_cases hlt : i < n
    · obtain ⟨b, o, hpe, hr⟩ := H.out.rd (by omega)
      subst hpe
      obtain ⟨q1, c1, k1, k2⟩ := hr i hlt
      obtain ⟨z, hz⟩ : ∃ z, (D i).size = z := ⟨_, rfl⟩
      rw [hz] at k1
      have zs : z ≤ 1152921504606846976 := by rw [← hz]; exact H.out.small i hlt
      have HZ : Hid _ := hz
      clear hr k2 hz
      have hl3 : (i : Int) < (n : Int) := by omega
      by_cases hlong : 16384 < z
      · have hq : (16384 : Int) < (z : Int) := by omega
        go_wp2
        go_ret2
        refine MR.bad ?_ (by decide) (Up.refl _)
        have e0 := longF_true (D := D) hlt (by rw [HZ.out]; exact hlong)
        have e1 : mapE n D = 3 := by unfold mapE largeF; rw [e0, Bool.or_true]; rfl
        unfold mpE; rw [e1, if_pos (by decide)]
      · have hq : ¬ (16384 : Int) < (z : Int) := by omega
        go_wp2
        go_roundw
        case rel =>
          refine ⟨i + 1, s + z, by omega, by go_num, by go_num, by omega, ⟨?_, ?_⟩, by trivial⟩
          · unfold sumS; rw [HZ.out, ← HS.out.1]
          · unfold longF; rw [HS.out.2, decide_eq_false (by rw [HZ.out]; exact hlong)]; rfl
        case measure => simp [intOf]; omega
    · have hie : n = i := by omega
      subst hie
      by_cases hsum : 262144 < s
      · have hq : (262144 : Int) < (s : Int) := by omega
        go_wp2
        go_ret2
        refine MR.bad ?_ (by decide) (Up.refl _)
        have e1 : mapE n D = 3 := by unfold mapE largeF; rw [← HS.out.1, decide_eq_true hsum, Bool.or_true]; rfl
        unfold mpE; rw [e1, if_pos (by decide)]
      have hq : ¬ (262144 : Int) < (s : Int) := by omega
      have HLF : Hid (largeF n D = false) := by
        show _ = _
        unfold largeF; rw [HS.out.2, ← HS.out.1, decide_eq_false hn, decide_eq_false hsum]; rfl
      have HSM : Hid (∀ i, i < n → (D i).size ≤ 16384) := fun i hi => longF_le HS.out.2 hi
      clear HS
      go_wp2
      go_loopw [16] (fun vi wr => ∃ i k : Nat, i ≤ n ∧ vi = .int .i64 i ∧ Hid (raggedF D i = false) ∧ wr = w.drewN k) (fun vi _ => n - (intOf vi).toNat)
      case atStart => exact ⟨0, 0, by omega, rfl, rfl, by rfl⟩
      case round =>
        obtain ⟨i, kd, hin2, rfl, HS, hw⟩ := hrel
        rename World => W
        have HU : Hid (Up w W) := by rw [hw]; exact Up.drewN _ _
        have HW : Hid (W = w.drewN kd) := hw
        clear hw
        by_cases hlt2 : i < n
        · obtain ⟨b, o, hpe, hr⟩ := H.out.rd (by omega)
          subst hpe
          obtain ⟨q1, c1, k1, _⟩ := hr i hlt2
          obtain ⟨q0, c0, k0, _⟩ := hr 0 (by omega)
          obtain ⟨z, hz⟩ : ∃ z, (D i).size = z := ⟨_, rfl⟩
          obtain ⟨y, hy⟩ : ∃ y, (D 0).size = y := ⟨_, rfl⟩
          rw [hz] at k1
          rw [hy, Nat.add_zero] at k0
          have HZ : Hid _ := hz
          have HY : Hid _ := hy
          have k1' := cell_up k1 HU.out
          have k0' := cell_up k0 HU.out
          clear hr hz hy k1 k0
          have hl3 : (i : Int) < (n : Int) := by omega
          have hl4 : (0 : Int) < (n : Int) := by omega
          by_cases he : z = y
          · have hb : ((z : Int) == (y : Int)) = true := by rw [beq_iff_eq]; omega
            go_wp2_with fail
            go_quiet (fail)
            go_wp2
            go_roundw
            case rel =>
              refine ⟨i + 1, kd + nq, by omega, by go_num, ?_, by rw [HW.out, World.drewN_drewN]⟩
              show raggedF D (i + 1) = false
              unfold raggedF; rw [HS.out, decide_eq_false (by rw [HZ.out, HY.out]; simpa using he)]; rfl
            case measure => simp [intOf]; omega
          · have hb : ((z : Int) == (y : Int)) = false := by rw [beq_eq_false_iff_ne]; omega
            go_wp2_with fail
            go_quiet (fail)
            go_wp2
            go_ret2
            refine MR.bad ?_ (by decide) (HU.out.trans (Up.drewN _ _))
            have e1 : mapE n D = 5 := by unfold mapE; rw [if_neg (by rw [HLF.out]; decide), if_pos (raggedF_true hlt2 (by rw [HZ.out, HY.out]; exact he))]
            unfold mpE; rw [e1, if_pos (by decide)]
        · have hie2 : n = i := by omega
          subst hie2
          have HME : Hid (mapE n D = 0) := by
            show _ = _
            unfold mapE; rw [if_neg (by rw [HLF.out]; decide), if_neg (by rw [HS.out]; decide)]
          clear HS HLF
          by_cases hce : ec = 0
          rotate_left
          · have hb : (ec == 0) = false := by rw [beq_eq_false_iff_ne]; exact hce
            go_wp2_with (go_at_call 16; (with_reducible refine (CN.out _).mono ?_); rintro e w2 ⟨p2, c2, rfl, HU2⟩)
            go_ret2
            refine MR.bad ?_ hce (HU.out.trans HU2.out)
            unfold mpE; rw [if_neg (by rw [HME.out]; simp), if_pos (by rw [HC.out]; exact hce), HC.out]
          subst hce
          go_wp2_with (go_at_call 16; (with_reducible refine (CN.out _).mono ?_); rintro e w2 ⟨p2, c2, rfl, HU2⟩)
          have UW : Hid (Up w w2) := HU.out.trans HU2.out
          have C16 : Hid (∀ W q c d, SV W q d.size c d → d.size ≤ 16384 → Calls Try.prog 16 #[.slice q d.size c, .int .i8 way, .int .i64 g, .int .i64 t, .int .i64 m, .float .f64 x] W fun e w' => ∃ p c, e = .returned (.tuple #[.slice p d.size c, .int .i64 0]) ∧ Hid (∃ LD, BR W.heap.size w' (.slice p d.size c) LD ∧ ∀ k, k < d.size → LD[k]! = F d k) ∧ Hid (Up W w')) := fun W q c d hv hd =>
            (lin_row W1.out.1 W1.out.2 HC.out hv hd).mono fun _ _ ⟨p, c, he, hb, hu⟩ => ⟨p, c, he, ⟨_, hb.out, fun k hk => by rw [linL_at hk, HF.out]⟩, hu⟩
          clear HU HU2 HW CN
          go_loopw [19, 20] (fun v vi wr => ∃ (i N c : Nat) (q : Option Addr) (L : List Spt), v = .slice q N c ∧ vi = .int .i64 i ∧ i ≤ n ∧ N ≤ 4096 ∧ Hid (L.length = N) ∧ Hid (L = spAll F D i) ∧ Hid (SO w2.heap.size wr (.slice q N c) L) ∧ Hid (Up w2 wr)) (fun _ vi _ => n - (intOf vi).toNat)
          case atStart => exact ⟨0, 0, 0, none, [], rfl, rfl, by omega, by omega, rfl, rfl, SO.nil _ _, Up.refl _⟩
          case round =>
            obtain ⟨i, N, c, q, L, rfl, rfl, hin3, hN, HN, HL, HO, HU⟩ := hrel
            rename World => W3
            by_cases hlt3 : i < n
            · obtain ⟨b, o, hpe, hr⟩ := H.out.rd (by omega)
              subst hpe
              obtain ⟨q1, c1, k1, k2⟩ := hr i hlt3
              have SR : Hid (SV w q1 (D i).size c1 (D i)) := k2
              have k1' := cell_up k1 (UW.out.trans HU.out)
              have KR : Hid (w.cell? ⟨b, o + i, none⟩ = some (.slice q1 (D i).size c1)) := k1
              have hz : (D i).size ≤ 16384 := HSM.out i hlt3
              obtain ⟨d, hd⟩ : ∃ d, D i = d := ⟨_, rfl⟩
              rw [hd] at k1' hz SR KR
              have HD : Hid (D i = d) := hd
              clear hd k1 k2 hr
              have C16d : Hid (∀ W q c, SV W q d.size c d → Calls Try.prog 16 #[.slice q d.size c, .int .i8 way, .int .i64 g, .int .i64 t, .int .i64 m, .float .f64 x] W fun e w' => ∃ p c, e = .returned (.tuple #[.slice p d.size c, .int .i64 0]) ∧ Hid (∃ LD, BR W.heap.size w' (.slice p d.size c) LD ∧ ∀ k, k < d.size → LD[k]! = F d k) ∧ Hid (Up W w')) := fun W q c hv => C16.out W q c d hv hz
              obtain ⟨z, hzz⟩ : ∃ z, d.size = z := ⟨_, rfl⟩
              rw [hzz] at k1' hz SR KR C16d
              have HZ : Hid _ := hzz
              clear hzz
              have hl3 : (i : Int) < (n : Int) := by omega
              go_wp2_with (go_at_call 16; (with_reducible refine (C16d.out _ _ _ (SR.out.up (UW.out.trans HU.out))).mono ?_); rintro e w4 ⟨pl, cl, rfl, HB, HU4⟩)
              obtain ⟨LD, hLD, hLF⟩ := HB.out
              have HLF2 : Hid (∀ k, k < z → LD[k]! = F d k) := hLF
              have HBR : Hid (BR W3.heap.size w4 (.slice pl z cl) LD) := hLD
              have HO4 : Hid (SO w2.heap.size w4 (.slice q N c) L) := HO.out.up HU4.out
              have HU5 : Hid (Up w2 w4) := HU.out.trans HU4.out
              clear HB hLD hLF HO HU HU4 k1' C16d
              go_loopw [19, 23] (fun v vi wr => ∃ (k N c : Nat) (q : Option Addr) (L : List Spt), v = .slice q N c ∧ vi = .int .i64 k ∧ k ≤ z ∧ N ≤ 4096 ∧ Hid (L.length = N) ∧ Hid (L = spAll F D i ++ spRow F i d k) ∧ Hid (SO w2.heap.size wr (.slice q N c) L) ∧ Hid (BR W3.heap.size wr (.slice pl z cl) LD) ∧ Hid (Up w2 wr)) (fun _ vi _ => z - (intOf vi).toNat)
              case atStart => exact ⟨0, N, c, q, L, rfl, rfl, by omega, hN, HN, by show L = _; rw [HL.out]; simp [spRow], HO4, HBR, HU5⟩
              case round =>
                clear HL HO4 HBR HU5 HN hN
                obtain ⟨k, N, c, q, L, rfl, rfl, hkz, hN, HN, HL, HO, HBR, HU⟩ := hrel
                rename World => W5
                by_cases hkl : k < z
                · obtain ⟨b2, o2, hpe, hr⟩ := SR.out.rd (by omega)
                  subst hpe
                  obtain ⟨y, hy⟩ : ∃ y, d[k]! = y := ⟨_, rfl⟩
                  have cy := cell_up (hr k (by rw [HZ.out]; exact hkl)) (UW.out.trans HU.out)
                  rw [hy] at cy
                  have kr := cell_up KR.out (UW.out.trans HU.out)
                  have HY : Hid _ := hy
                  have hk3 : (k : Int) < (z : Int) := by omega
                  have hk4 : (0 : Int) ≤ (k : Int) := by omega
                  clear hr hy
                  obtain ⟨p', c', e1, hp1⟩ := OR.form HBR.out
                  have hl1 : LD.length = z := OR.len HBR.out
                  obtain ⟨gl, hgl⟩ := hp1 (by omega)
                  simp only [Value.slice.injEq] at e1
                  have hpl := e1.1.trans hgl
                  subst hpl
                  have cl0 := OR.cell HBR.out (i := k) (by omega)
                  rw [HLF2.out k hkl] at cl0
                  have HL1 : Hid _ := hl1
                  clear e1 hgl hp1 hl1
                  obtain ⟨f, hf⟩ : ∃ f, F d k = f := ⟨_, rfl⟩
                  have HFK : Hid _ := hf
                  rw [hf] at cl0
                  clear hf
                  cases f
                  · go_wp2
                    go_roundw
                    case rel =>
                      refine ⟨k + 1, N, c, q, L, rfl, by go_num, by omega, hN, HN, ?_, HO, HBR, HU⟩
                      show _ = _
                      rw [HL.out]
                      show _ = spAll F D i ++ (spRow F i d k ++ (if F d k = true then _ else _))
                      rw [HFK.out]; simp
                    case measure => simp [intOf]; omega
                  · by_cases hfull : N = 4096
                    · subst hfull
                      go_wp2
                      go_ret2
                      refine MR.bad ?_ (by decide) (UW.out.trans HU.out)
                      have hm := sp_most F D hlt3 (k := k) (by rw [HD.out, HZ.out]; exact hkl) (by rw [HD.out]; exact HFK.out) (by rw [HD.out, ← HL.out]; exact HN.out)
                      unfold mpE
                      rw [if_neg (by rw [HME.out]; simp), if_neg (by rw [HC.out]; simp), if_pos hm]
                    · have hb : ¬ (4096 : Int) ≤ (N : Int) := by omega
                      have sz : w2.heap.size ≤ W5.heap.size := RowKit.Below.size HU.out
                      have hown : W5.ownsRow w2.heap.size 44 3 (.slice q N c) N (L.flatMap spC) := by
                        have := HO.out; unfold SO at this; rw [HN.out] at this; exact this
                      go_wp2_with (at_builtin; refine wpList_append_own _ rfl _ _ 40 rfl w2.heap.size 44 i0 (.agg #[.int .i64 0, .int .i64 0, .float .f64 0]) 3 24 Try.underlying40 hi0 hz0 hz1 hz2 rfl (by decide) _ _ _ rfl (hown.alloc _) ⟨W5.heap.size, 0, none⟩ 1 1 [.int .i64 i, .int .i64 k, .float .f64 y] rfl rfl (three_new _ _ _ _ _) (three_one rfl rfl rfl) (by unfold maxLen; omega) (by omega) (by simp; omega) ?_)
                      intro v' w6 hown' hgrow _
                      have R3 := so_push (s := (i, k, y)) (Nat.le_refl _) HN.out hown HU.out hown' hgrow
                      have HB6 : Hid (BR W3.heap.size w6 (.slice (some ⟨gl, 0, none⟩) z cl) LD) := owns_grown (OR.up HBR.out (Up.alloc _ _)) hgrow (fun g hg => kinds_apart hown HBR.out (by decide) hg)
                      have U6 : Hid (Up w2 w6) := R3.2
                      obtain ⟨p', c', hv, _⟩ := own_form hown'
                      subst hv
                      have HO3 : Hid (SO w2.heap.size w6 (.slice p' (N + 1) c') (L ++ [(i, k, y)])) := R3.1
                      clear hown' hgrow hown R3
                      go_wp2
                      go_roundw
                      case rel =>
                        refine ⟨k + 1, N + 1, c', p', L ++ [(i, k, y)], rfl, by go_num, by omega, by omega, by show _ = _; rw [List.length_append, HN.out]; rfl, ?_, HO3, HB6, U6⟩
                        show _ = _
                        rw [HL.out]
                        show _ = spAll F D i ++ (spRow F i d k ++ (if F d k = true then _ else _))
                        rw [HFK.out, if_pos rfl, HY.out, List.append_assoc]
                      case measure => simp [intOf]; omega
                · have hke : z = k := by omega
                  subst hke
                  go_wp2
                  go_roundw
                  case rel =>
                    refine ⟨i + 1, N, c, q, L, rfl, by go_num, by omega, hN, HN, ?_, HO, HU⟩
                    show _ = spAll F D i ++ spRow F i (D i) (D i).size
                    rw [HD.out, HZ.out]; exact HL.out
                  case measure => simp [intOf]; omega
            · have hie3 : n = i := by omega
              subst hie3
              go_wp2
              go_ret2
              exact MR.ok HME.out HC.out HL.out HN.out hN (HO.out.base (RowKit.Below.size UW.out)) (UW.out.trans HU.out)
end Go.Proofs.Ytfggdaebahdnfaa

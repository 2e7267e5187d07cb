/- Quick. -/
import Derived.Test.YtfimolhndbfpgaaMf
namespace Go.Proofs.Ytfimolhndbfpgaa
open Go.ChangeShapes Go.WideShapes Go.ChangeAt Go.RowKit Go.Fl Ieee
attribute [local go_sem] run_store_float run_store_c isSome_set call29 call28 run_neg fold_eq fold_ne fold_lt fold_gt abs_eq

theorem hv_congrF {U : Nat → Nat → C2} : ∀ (m : Nat) {F G : Nat → C2} (j : Nat), (∀ i, i < 2 ^ m → F i = G i) → j < 2 ^ m → hv U m F j = hv U m G j
  | 0, F, G, j, h, hj => h 0 (by simp)
  | m + 1, F, G, j, h, hj => by
    have e : 2 ^ (m + 1) = 2 * 2 ^ m := by rw [Nat.pow_succ]; omega
    rw [hv, hv]
    split
    · rename_i hlt
      rw [hv_congrF m j (fun i hi => h (2 * i) (by omega)) hlt, hv_congrF m j (fun i hi => h (2 * i + 1) (by omega)) hlt]
    · rw [hv_congrF m (j - 2 ^ m) (fun i hi => h (2 * i) (by omega)) (by omega), hv_congrF m (j - 2 ^ m) (fun i hi => h (2 * i + 1) (by omega)) (by omega)]
/-- A row, filled up with noughts. -/
def fill (f : Nat → Nat × Nat) (n j : Nat) : C2 := if j < n then ab2 (f j) else (ab 0, ab 0)
theorem fill_at {f : Nat → Nat × Nat} {n N i : Nat} (hn : n ≤ N) (hi : i < N) : ab2 (splice (List.replicate N ((0, 0) : Nat × Nat)) 0 (cut f 0 n))[i]! = fill f n i := by
  unfold fill splice
  simp only [List.take_zero, List.nil_append, Nat.zero_add, cut_len]
  rw [getElem!_pos _ i (by simp [cut_len]; omega), List.getElem_append]
  split
  · rename_i h
    rw [cut_len] at h
    rw [if_pos h]
    simp [cut]
  · rename_i h
    rw [cut_len] at h
    rw [if_neg h]
    simp [ab2]
theorem there_eq {f : Nat → Nat × Nat} {n M : Nat} (hn : n ≤ 2 ^ M) : fastL false M (fun i => ab2 (splice (List.replicate (2 ^ M) ((0, 0) : Nat × Nat)) 0 (cut f 0 n))[i]!) = (List.range (2 ^ M)).map (hv (uOf false M) M (fill f n)) := by
  unfold fastL
  rw [if_neg (by decide)]
  refine List.map_congr_left fun j hj => ?_
  exact hv_congrF M j (fun i hi => fill_at hn hi) (List.mem_range.1 hj)
theorem fill_fast {M N q : Nat} {b : Nat} {w : World} {d : List (Nat × Nat)} (HN : Hid (N = 2 ^ M)) (hb : N ≤ 16384) (HC : Hid (CRow b w (.slice (some ⟨q, 0, none⟩) N N) d)) : Calls Try.prog 33 #[.slice (some ⟨q, 0, none⟩) N N, .bool false] w (PL w (fastL false M fun i => ab2 d[i]!) 0) :=
  t33 M q 0 N N false (fun i => d[i]!) w HN.out hb (Nat.le_refl _) (World.ownsRow.lt HC.out _ rfl).2 (rd_take HC.out (Nat.le_refl _))
set_option maxHeartbeats 1000000 in
theorem t32 (M N g o n c nb : Nat) (f : Nat → Nat × Nat) (w : World) (hN : N = 2 ^ M) (hb : N ≤ 16384) (hn : n ≤ N) (h0 : w.cell? ⟨nb, 0, none⟩ = some (.int .i64 N)) (hR : RD w g o n f) :
    Calls Try.prog 32 #[.slice (some ⟨g, o, none⟩) n c, .pointer (some ⟨nb, 0, none⟩)] w (HL w ((List.range (2 ^ M)).map (hv (uOf false M) M (fill f n)))) := by
  have HN : Hid (N = 2 ^ M) := hN
  have HR : Hid (RD w g o n f) := hR
  clear hN hR
  go_enter Try.func32, Try.ntmps32
  go_wp2_with (first
    | ((with_reducible refine upon_make (n := N) (by omega) ?_); intro q w1 HM
       have HG : Hid (w1.heap[q]? = some (.cells ((List.replicate N ((0, 0) : Nat × Nat)).map ce).toArray 28 (0, 0))) := HM.out.2.1.heap
       have HR1 : Hid (RD w1 g o n f) := HR.out.up HM.out.2.2)
    | ((with_reducible refine upon_copy (s := 0) (lo := o) HG HR1 rfl (by omega) hn (by simp; omega) ?_); intro w2 HG2 HB2
       have HC2 : Hid (CRow q w2 (.slice (some ⟨q, 0, none⟩) N N) (splice (List.replicate N ((0, 0) : Nat × Nat)) 0 (cut f 0 n))) := CRow.of_heap (by simp [splice, cut_len]; omega) (Nat.le_refl _) (by omega) HG2.out)
    | (go_at_call 33; (with_reducible refine (fill_fast HN hb HC2).mono ?_); rintro e w3 ⟨v, d, rfl, h3, h4, h5⟩))
  go_ret
  have hq := HM.out.1
  have U2 : Up w w2 := HB2.out.up HM.out.2.2 (by omega)
  refine ⟨v, d, rfl, h3.out.down U2.size, U2.trans h4.out, ?_⟩
  show _ = _
  rw [h5.out, HN.out]
  exact there_eq (by rw [← HN.out]; exact hn)
def conjF (c : C2) : C2 := (c.1, c.2.map neg)
/-- What Quick tells at a place. -/
def quickC (M : Nat) (Fa Fb : Nat → C2) (k : Nat) : C2 := mulC (hv (uOf false M) M Fa k) (conjF (hv (uOf false M) M Fb k))
def quickF (M : Nat) (Fa Fb : Nat → C2) (d : Nat) : C2 := divF (2 ^ M) (hv (uOf true M) M (quickC M Fa Fb) d)
def QL (w : World) (n M : Nat) (Fa Fb : Nat → C2) (e : Ending) (w' : World) : Prop := ∃ (g : Nat) (dd : List (Nat × Nat)), e = .returned (.tuple #[.slice (some ⟨g, 0, none⟩) n n, .int .i64 0]) ∧ Hid (RD w' g 0 n (fun i => dd[i]!) ∧ ∀ i, i < n → ab2 dd[i]! = quickF M Fa Fb i) ∧ Hid (Up w w')
theorem rowsL {d : List (Nat × Nat)} {L : Nat} {G : Nat → C2} (h : d.map ab2 = (List.range L).map G) : d.length = L ∧ ∀ p, p < L → ab2 d[p]! = G p := by
  have hl : d.length = L := by have := congrArg List.length h; simpa using this
  refine ⟨hl, fun p hp => ?_⟩
  have e := congrArg (fun l => l[p]?) h
  simp only [List.getElem?_map, List.getElem?_range hp, Option.map_some] at e
  rw [List.getElem?_eq_getElem (by omega)] at e
  simp only [Option.map_some, Option.some.injEq] at e
  rw [getElem!_pos d p (by omega), e]
theorem back_fast {M N q cap : Nat} {b : Nat} {w : World} {d : List (Nat × Nat)} (HN : Hid (N = 2 ^ M)) (hb : N ≤ 16384) (hc : N ≤ cap) (HC : Hid (CRow b w (.slice (some ⟨q, 0, none⟩) N cap) d)) : Calls Try.prog 33 #[.slice (some ⟨q, 0, none⟩) N cap, .bool true] w (PL w (fastL true M fun i => ab2 d[i]!) 0) :=
  t33 M q 0 N cap true (fun i => d[i]!) w HN.out hb hc (World.ownsRow.lt HC.out _ rfl).2 (rd_take HC.out (Nat.le_refl _))
theorem back_eq {M : Nat} {d : List (Nat × Nat)} {F : Nat → C2} (h : ∀ i, i < 2 ^ M → ab2 d[i]! = F i) : fastL true M (fun i => ab2 d[i]!) = (List.range (2 ^ M)).map fun j => divF (2 ^ M) (hv (uOf true M) M F j) := by
  unfold fastL
  rw [if_pos rfl, List.map_map]
  refine List.map_congr_left fun j hj => ?_
  show divF _ (hv _ _ _ _) = _
  rw [hv_congrF M j h (List.mem_range.1 hj)]
/-- The row a while it is being multiplied. -/
structure QI (w wr : World) (ga gb ca cb N : Nat) (A B : Nat → C2) (k : Nat) (da db : List (Nat × Nat)) : Prop where
  ne : ga ≠ gb
  lo : w.heap.size ≤ ga
  ra : CRow w.heap.size wr (.slice (some ⟨ga, 0, none⟩) N ca) da
  rb : CRow w.heap.size wr (.slice (some ⟨gb, 0, none⟩) N cb) db
  done : ∀ i, i < k → ab2 da[i]! = mulC (A i) (conjF (B i))
  rest : ∀ i, k ≤ i → i < N → ab2 da[i]! = A i
  bs : ∀ i, i < N → ab2 db[i]! = B i
  up : Up w wr
theorem QI.step {w wr : World} {ga gb ca cb N k kk r s : Nat} {A B : Nat → C2} {da db : List (Nat × Nat)} (h : QI w wr ga gb ca cb N A B k da db) (hk : k < N) (hr : (ab r, ab s) = mulC (A k) (conjF (B k))) : QI w ((wr.drewN kk).setCell ⟨ga, k, none⟩ (.complex .f64 r s)) ga gb ca cb N A B (k + 1) (da.set k (r, s)) db := by
  obtain ⟨h1, h2⟩ := (h.ra.up (Up.drewN _ kk)).put k r s
  refine ⟨h.ne, h.lo, h1, (h.rb.up (Up.drewN _ kk)).far h2 (Ne.symm h.ne), fun i hi => ?_, fun i h1 h2 => ?_, h.bs, h2.up (h.up.trans (Up.drewN _ _)) h.lo⟩
  · rw [set_at _ _ _ _ (by rw [h.ra.len]; exact hk)]
    split
    · rename_i e; subst e; exact hr
    · exact h.done i (by omega)
  · rw [set_at _ _ _ _ (by rw [h.ra.len]; exact hk), if_neg (by omega)]
    exact h.rest i (by omega) h2
theorem quick_start {M N ga gb ca cb : Nat} {w2 w3 w4 : World} {o : Obj} {A B : Nat → C2} {da db : List (Nat × Nat)} (HN : Hid (N = 2 ^ M)) (ra : Hid (CRow (w2.alloc o).heap.size w3 (.slice (some ⟨ga, 0, none⟩) N ca) da)) (ya : Hid (Up (w2.alloc o) w3)) (rb : Hid (CRow w3.heap.size w4 (.slice (some ⟨gb, 0, none⟩) N cb) db)) (yb : Hid (Up w3 w4)) (qa' : Hid (da.map ab2 = (List.range (2 ^ M)).map A)) (qb : Hid (db.map ab2 = (List.range (2 ^ M)).map B)) : QI w2 w4 ga gb ca cb N A B 0 da db := by
  have l1 : ga < w3.heap.size := (World.ownsRow.lt ra.out _ rfl).2
  have l2 : w3.heap.size ≤ gb := (World.ownsRow.lt rb.out _ rfl).1
  have l3 : (w2.alloc o).heap.size ≤ ga := (World.ownsRow.lt ra.out _ rfl).1
  have l4 : w2.heap.size ≤ (w2.alloc o).heap.size := (Up.alloc w2 o).size
  have l5 := ya.out.size
  have e := HN.out
  refine ⟨by omega, by omega, (ra.out.up yb.out).down l4, rb.out.down (by omega), fun i hi => by omega, fun i _ hi => (rowsL qa'.out).2 i (by omega), fun i hi => (rowsL qb.out).2 i (by omega), ((Up.alloc _ _).trans ya.out).trans yb.out⟩
set_option maxHeartbeats 4000000 in
theorem t10 (M N lg lo n c pg po m pc : Nat) (f g : Nat → Nat × Nat) (w : World) (h1 : RD w lg lo n f) (h2 : RD w pg po m g) (hn : 1 ≤ n) (hm : 1 ≤ m) (hN : N = 2 ^ M) (hL : Least (n + m - 1) M) (hb : N ≤ 16384) :
    Calls Try.prog 10 #[.slice (some ⟨lg, lo, none⟩) n c, .slice (some ⟨pg, po, none⟩) m pc] w (QL w n M (fill f n) (fill g m)) := by
  have hle : n + m - 1 ≤ N := by rw [hN]; exact hL.1
  have HL : Hid (Least (n + m - 1) M) := hL
  have HN : Hid (N = 2 ^ M) := hN
  have H1 : Hid (RD w lg lo n f) := h1
  have H2 : Hid (RD w pg po m g) := h2
  have e : Hid ((decide (16384 < n) || decide (16384 < m)) = false) := by show _ = _; simp; omega
  obtain ⟨K, hK⟩ : ∃ K, n + m - 1 = K := ⟨_, rfl⟩
  have eK : (n : Int) + (m : Int) - 1 = K := by omega
  have HK : Hid (Least K M) := by show Least _ _; rw [← hK]; exact hL
  have zn : ((n : Int) == 0) = false := by rw [beq_eq_false_iff_ne]; omega
  have zm : ((m : Int) == 0) = false := by rw [beq_eq_false_iff_ne]; omega
  have zN : ¬ (16384 : Int) < (N : Int) := by omega
  have kb : K ≤ 1000000 := by omega
  clear h1 h2 hL hN hK
  go_enter Try.func10, Try.ntmps10
  go_wp2_with (first
    | (go_at_call 30; (with_reducible refine (t30k _ _ _ (by omega) (by omega) e.out).mono ?_); rintro e w' ⟨rfl, rfl⟩)
    | (go_at_call 31; (with_reducible refine (t31k _ HK.out kb rfl HN.out).mono ?_); rintro e w2 ⟨rfl, rfl⟩
       have b0 := box_cell w2 (.int .i64 N) 3 0
       have HB0 : Hid ((w2.alloc (.cells #[.int .i64 N] 3)).cell? ⟨w2.heap.size, 0, none⟩ = some (.int .i64 N)) := b0
       have Ha : Hid (RD (w2.alloc (.cells #[.int .i64 N] 3)) lg lo n f) := H1.out.up (Up.alloc _ _)
       have Hp : Hid (RD (w2.alloc (.cells #[.int .i64 N] 3)) pg po m g) := H2.out.up (Up.alloc _ _)
       clear H1 H2)
    | (go_at_call 32; (with_reducible refine (t32 _ _ _ _ _ _ _ _ _ HN.out hb (by omega) HB0.out Ha.out).mono ?_); rintro e w3 ⟨va, da, rfl, ra, ya, qa'⟩
       have la := (rowsL qa'.out).1
       rw [← HN.out] at la
       obtain ⟨ga, ca, hva, hca⟩ := row_form ra.out la (by omega)
       subst hva
       have HB3 : Hid (w3.cell? ⟨w2.heap.size, 0, none⟩ = some (.int .i64 N)) := cell_up HB0.out ya.out
       have Hp3 : Hid (RD w3 pg po m g) := Hp.out.up ya.out
       clear Hp Ha HB0)
    | (go_at_call 32; (with_reducible refine (t32 _ _ _ _ _ _ _ _ _ HN.out hb (by omega) HB3.out Hp3.out).mono ?_); rintro e w4 ⟨vb, db, rfl, rb, yb, qb⟩
       have lb := (rowsL qb.out).1
       rw [← HN.out] at lb
       obtain ⟨gb, cb, hvb, hcb⟩ := row_form rb.out lb (by omega)
       subst hvb
       have c4 := cell_up HB3.out yb.out
       have HI : Hid (QI w2 w4 ga gb ca cb N (hv (uOf false M) M (fill f n)) (hv (uOf false M) M (fill g m)) 0 da db) := quick_start HN ra ya rb yb qa' qb
       clear ra ya rb yb qa' qb HB3 Hp3))
  go_loopw [10, 43] (fun _ vi wr => ∃ (k : Nat) (da : List (Nat × Nat)), k ≤ N ∧ vi = .int .i64 k ∧ Hid (QI w2 wr ga gb ca cb N (hv (uOf false M) M (fill f n)) (hv (uOf false M) M (fill g m)) k da db)) (fun _ vi _ => N - (intOf vi).toNat)
  case atStart => exact ⟨0, _, by omega, rfl, HI⟩
  case round =>
    clear HI
    obtain ⟨k, da, hk, rfl, HI⟩ := hrel
    by_cases hlt : k < N
    · have kz : (k : Int) < (N : Int) := by omega
      have k0 : (0 : Int) ≤ (k : Int) := by omega
      obtain ⟨x, y, HX, cx⟩ : ∃ x y, Hid (da[k]! = (x, y)) ∧ wr.cell? ⟨ga, k, none⟩ = some (.complex .f64 x y) := ⟨_, _, rfl, HI.out.ra.cell (by rw [HI.out.ra.len]; exact hlt)⟩
      obtain ⟨u, v, HU, cu⟩ : ∃ x y, Hid (db[k]! = (x, y)) ∧ wr.cell? ⟨gb, k, none⟩ = some (.complex .f64 x y) := ⟨_, _, rfl, HI.out.rb.cell (by rw [HI.out.rb.len]; exact hlt)⟩
      have f1 := HI.out.ra.frz k
      have HP : Hid (mulC (hv (uOf false M) M (fill f n) k) (conjF (hv (uOf false M) M (fill g m) k)) = (mulR (ab x) (ab y) (ab u) (ab (neg v)), mulI (ab x) (ab y) (ab u) (ab (neg v)))) := by
        show _ = _
        rw [← HI.out.rest k (Nat.le_refl _) hlt, ← HI.out.bs k hlt, HX.out, HU.out]
        simp only [ab2, conjF, mulC, ab_neg]
      go_wp2_with fail
      go_region_with (first
        | (go_at_call 34; (with_reducible refine (t34 _ _ _).mono ?_); rintro e w5 ⟨rfl, rfl⟩)
        | (go_at_call 18; (with_reducible refine (t18 _ _ _ _ _).mono ?_); rintro e w6 ⟨r3, s3, k3, rfl, rfl, hr3, hs3⟩))
      all_goals
        try go_wp2
        go_roundw
        case rel => exact ⟨k + 1, _, by omega, by go_num, HI.out.step hlt (by rw [HP.out, hr3.out, hs3.out])⟩
        case measure => simp [intOf]; omega
    · obtain rfl : k = N := by omega
      have RA : Hid (CRow w2.heap.size wr (.slice (some ⟨ga, 0, none⟩) k ca) da) := HI.out.ra
      have HE : Hid (fastL true M (fun i => ab2 da[i]!) = (List.range (2 ^ M)).map fun j => divF (2 ^ M) (hv (uOf true M) M (quickC M (fill f n) (fill g m)) j)) := back_eq fun i hi => HI.out.done i (by have := HN.out; omega)
      have UQ : Hid (Up w2 wr) := HI.out.up
      have nz : (n : Int) ≤ (k : Int) := by omega
      clear HI
      go_wp2_with (go_at_call 33; (with_reducible refine (back_fast HN hb hca RA).mono ?_); rintro e w7 ⟨v7, d7, rfl, r7, y7, q7⟩
                   have l7 := (rowsL (q7.out.trans HE.out)).1
                   rw [← HN.out] at l7
                   obtain ⟨g7, c7, hv7, hc7⟩ := row_form r7.out l7 (by omega)
                   subst hv7)
      go_ret2
      refine ⟨g7, d7, rfl, ⟨rd_take r7.out (by omega), fun i hi => (rowsL (q7.out.trans HE.out)).2 i (by have := HN.out; omega)⟩, UQ.out.trans y7.out⟩
end Go.Proofs.Ytfimolhndbfpgaa

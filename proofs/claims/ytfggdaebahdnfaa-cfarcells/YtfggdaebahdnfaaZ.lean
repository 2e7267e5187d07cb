/- The stable sort of a row of floats. -/
import Derived.Test.YtfggdaebahdnfaaY
namespace Go.Proofs.Ytfggdaebahdnfaa
open Go.ChangeShapes Go.WideShapes Go.ChangeAt Go.RowKit Go.Fl Go.Sort
attribute [local go_sem] run_store_float call35 call46 run_neg fold_eq fold_ne fold_lt fold_gt abs_eq

/-- A row of the walk's, and what is known of it. -/
def Row (w : World) (blk off : Nat) (P : Array Nat → Prop) (W : World) : Prop := ∃ k d, W = (putRow fe w blk off d).drewN k ∧ P d
/-- Each block of bs places is sorted. -/
def Blocks (bs N : Nat) (d : Array Nat) : Prop := ∀ q, SortedIn ltK (q * bs) (min (q * bs + bs) N) d
/-- The first q blocks are sorted; from there on all is as it was in d0. -/
def Upto (bs q : Nat) (d0 d : Array Nat) : Prop := PermIn 0 (q * bs) d0 d ∧ ∀ p, p < q → SortedIn ltK (p * bs) (p * bs + bs) d

theorem upto_start (bs : Nat) (d : Array Nat) : Upto bs 0 d d := ⟨permIn_refl _ _ _, fun p h => by omega⟩
theorem block_le {p q bs : Nat} (h : p < q) : p * bs + bs ≤ q * bs := by
  rw [← Nat.succ_mul]; exact Nat.mul_le_mul_right _ h
theorem upto_step {bs q : Nat} {d0 d d' : Array Nat} (h : Upto bs q d0 d) (hP : PermIn (q * bs) (q * bs + bs) d d') (hS : SortedIn ltK (q * bs) (q * bs + bs) d') (hb : q * bs + bs ≤ d0.size) : Upto bs (q + 1) d0 d' := by
  have hs : d.size = d0.size := h.1.1
  refine ⟨?_, fun p hp => ?_⟩
  · rw [Nat.succ_mul]
    exact permIn_trans _ _ _ _ _ (permIn_mono _ _ _ _ _ _ (Nat.le_refl _) (by omega) hb h.1) (permIn_mono _ _ _ _ _ _ (by omega) (Nat.le_refl _) (by omega) hP)
  · rcases Nat.lt_or_ge p q with hlt | hge
    · have := block_le (bs := bs) hlt
      exact sorted_congr (h.2 p hlt) fun x k1 k2 => hP.2.1 x (Or.inl (by omega))
    · obtain rfl : p = q := by omega
      exact hS
/-- The last block, which may be short. -/
theorem blocks_end {bs q N : Nat} {d0 d d' : Array Nat} (h : Upto bs q d0 d) (hP : PermIn (q * bs) N d d') (hS : SortedIn ltK (q * bs) N d') (hN : N = d0.size) (hq : q * bs ≤ N) (hb : N < q * bs + bs) : PermIn 0 N d0 d' ∧ Blocks bs N d' := by
  have hs : d.size = d0.size := h.1.1
  refine ⟨permIn_trans _ _ _ _ _ (permIn_mono _ _ _ _ _ _ (Nat.le_refl _) hq (by omega) h.1) (permIn_mono _ _ _ _ _ _ (by omega) (Nat.le_refl _) (by omega) hP), fun p => ?_⟩
  rcases Nat.lt_trichotomy p q with hlt | rfl | hgt
  · have := block_le (bs := bs) hlt
    rw [Nat.min_eq_left (by omega)]
    exact sorted_congr (h.2 p hlt) fun x k1 k2 => hP.2.1 x (Or.inl (by omega))
  · rw [Nat.min_eq_right (by omega)]; exact hS
  · have := block_le (bs := bs) hgt
    intro x y k1 k2 k3
    omega

/-- The two parts of a block of 2 bs that starts at a, in a row that is as it was there. -/
theorem parts_of {bs q N : Nat} {d0 d : Array Nat} (hB : Blocks bs N d0) (h : Upto (2 * bs) q d0 d) : SortedIn ltK (q * (2 * bs)) (min (q * (2 * bs) + bs) N) d ∧ SortedIn ltK (q * (2 * bs) + bs) (min (q * (2 * bs) + bs + bs) N) d := by
  have e1 : (2 * q) * bs = q * (2 * bs) := by rw [Nat.mul_comm 2 q, Nat.mul_assoc]
  have e2 : (2 * q + 1) * bs = q * (2 * bs) + bs := by rw [Nat.succ_mul, e1]
  have h1 := hB (2 * q)
  have h2 := hB (2 * q + 1)
  rw [e1] at h1
  rw [e2] at h2
  exact ⟨sorted_congr h1 fun x k1 k2 => h.1.2.1 x (Or.inr k1), sorted_congr h2 fun x k1 k2 => h.1.2.1 x (Or.inr (by omega))⟩

theorem ins_row {w W : World} {blk off cap a b : Nat} {d0 : Array Nat} {P Q : Array Nat → Prop} (hH : Hid (Holds fe w blk off d0)) (hR : Hid (Row w blk off P W)) (hsz : d0.size < 4611686018427387904) (hab : a ≤ b) (hb : b ≤ d0.size) (hP : ∀ d, P d → d.size = d0.size ∧ Fit d) (hQ : ∀ d d', P d → PermIn a b d d' → SortedIn ltK a b d' → Q d') :
    Calls Try.prog 84 #[.slice (some ⟨blk, off, none⟩) d0.size cap, .int .i64 a, .int .i64 b, ord29] W fun e w' => e = .returned (.tuple #[]) ∧ Hid (Row w blk off Q w') := by
  obtain ⟨k, d, hk, hp⟩ := hR.out
  obtain ⟨hs, hF⟩ := hP d hp
  have h := t84 blk off cap a b d W (by rw [hk]; exact holds_putRow fe w blk off d0 d hH.out hs) hF hab (by omega) (by omega)
  rw [hs] at h
  refine h.mono fun e w' ⟨he, k', d', hw, hP, hS⟩ => ⟨he, k + k', d', ?_, hQ d d' hp hP hS⟩
  rw [hw, hk, row_on _ _ _ _ _ _ _ hP.1]
theorem sym_row {w W : World} {blk off cap a m b : Nat} {d0 : Array Nat} {P Q : Array Nat → Prop} (hH : Hid (Holds fe w blk off d0)) (hR : Hid (Row w blk off P W)) (hsz : d0.size < 4611686018427387904) (ham : a < m) (hmb : m < b) (hb : b ≤ d0.size) (hP : ∀ d, P d → d.size = d0.size ∧ Fit d ∧ SortedIn ltK a m d ∧ SortedIn ltK m b d) (hQ : ∀ d d', P d → PermIn a b d d' → SortedIn ltK a b d' → Q d') :
    Calls Try.prog 85 #[.slice (some ⟨blk, off, none⟩) d0.size cap, .int .i64 a, .int .i64 m, .int .i64 b, ord29] W fun e w' => e = .returned (.tuple #[]) ∧ Hid (Row w blk off Q w') := by
  obtain ⟨k, d, hk, hp⟩ := hR.out
  obtain ⟨hs, hF, h1, h2⟩ := hP d hp
  refine (t85 blk off cap a m b d0.size d W hs (by rw [hk]; exact holds_putRow fe w blk off d0 d hH.out hs) hF ham hmb hb hsz h1 h2).mono fun e w' ⟨he, k', d', hw, hP, hS⟩ => ⟨he, k + k', d', ?_, hQ d d' hp hP hS⟩
  rw [hw, hk, row_on _ _ _ _ _ _ _ hP.1]

set_option maxHeartbeats 4000000 in
theorem t82 (blk off cap : Nat) (d : Array Nat) (w : World) (hH : Holds fe w blk off d) (hF : Fit d) (hsz : d.size < 1152921504606846976) :
    Calls Try.prog 82 #[.slice (some ⟨blk, off, none⟩) d.size cap, .int .i64 d.size, ord29] w fun e w' => e = .returned (.tuple #[]) ∧ ∃ k d', w' = (putRow fe w blk off d').drewN k ∧ PermIn 0 d.size d d' ∧ SortedIn ltK 0 d.size d' := by
  have HH : Hid (Holds fe w blk off d) := hH
  have HF : Hid (Fit d) := hF
  have HST : Hid (w = (putRow fe w blk off d).drewN 0) := (putRow_self fe w blk off d hH).symm
  clear hH hF
  go_enter Try.func82, Try.ntmps82
  go_wp2
  go_loopw [7, 8] (fun va vb wr => ∃ (a b q : Nat), va = .int .i64 a ∧ vb = .int .i64 b ∧ b = a + 20 ∧ a ≤ d.size ∧ Hid (a = q * 20) ∧ Hid (Row w blk off (Upto 20 q d) wr)) (fun va _ _ => d.size - (intOf va).toNat)
  case atStart => exact ⟨0, 20, 0, rfl, rfl, rfl, by omega, rfl, ⟨0, d, HST.out, upto_start _ _⟩⟩
  case round =>
    obtain ⟨a, b, q, rfl, rfl, hb, ha, HA, HR⟩ := hrel
    have HB : Hid (b = a + 20) := hb
    have hbb : b < 2000000000000000000 := by omega
    have hab : a < b := by omega
    clear hb
    by_cases hlt : b ≤ d.size
    · have KP : Hid (∀ d1, Upto 20 q d d1 → d1.size = d.size ∧ Fit d1) := fun d1 h => ⟨h.1.1, HF.out.perm (by rw [← HA.out]; exact ha) h.1⟩
      have KQ : Hid (∀ d1 d2, Upto 20 q d d1 → PermIn a b d1 d2 → SortedIn ltK a b d2 → Upto 20 (q + 1) d d2) := fun d1 d2 h hP hS => by
        have e1 := HA.out
        have e2 := HB.out
        rw [e2, e1] at hP hS
        exact upto_step h hP hS (by omega)
      go_wp2_with (go_at_call 84; (with_reducible refine (ins_row HH HR (by omega) (by omega) hlt KP.out KQ.out).mono ?_); rintro e w' ⟨rfl, HR2⟩)
      clear KP KQ HR
      go_roundw
      case rel => exact ⟨b, b + 20, q + 1, rfl, by go_num, rfl, hlt, (by have e1 := HA.out; have e2 := HB.out; show _ = _; omega), HR2⟩
      case measure => simp [intOf]; omega
    · have KP : Hid (∀ d1, Upto 20 q d d1 → d1.size = d.size ∧ Fit d1) := fun d1 h => ⟨h.1.1, HF.out.perm (by rw [← HA.out]; exact ha) h.1⟩
      have KQ : Hid (∀ d1 d2, Upto 20 q d d1 → PermIn a d.size d1 d2 → SortedIn ltK a d.size d2 → PermIn 0 d.size d d2 ∧ Blocks 20 d.size d2) := fun d1 d2 h hP hS => by
        have e1 := HA.out
        have e2 := HB.out
        rw [e1] at hP hS
        exact blocks_end h hP hS rfl (by omega) (by omega)
      go_wp2_with (go_at_call 84; (with_reducible refine (ins_row HH HR (by omega) ha (Nat.le_refl _) KP.out KQ.out).mono ?_); rintro e w' ⟨rfl, HR2⟩)
      clear KP KQ HR
      go_loopw [6, 7, 8, 9] (fun vs _ _ _ wr => ∃ (bs : Nat), vs = .int .i64 bs ∧ 20 ≤ bs ∧ (bs = 20 ∨ bs < 2 * d.size) ∧ Hid (Row w blk off (fun d1 => PermIn 0 d.size d d1 ∧ Blocks bs d.size d1) wr)) (fun vs _ _ _ _ => d.size - (intOf vs).toNat)
      case atStart => exact ⟨20, rfl, by omega, by omega, HR2⟩
      case round =>
        clear HR2
        obtain ⟨bs, rfl, hbs, hbs2, HR⟩ := hrel
        rename World => W1
        by_cases hlt2 : bs < d.size
        · obtain ⟨k0, d0, hk0, hP0, hB0⟩ := HR.out
          have HK : Hid (W1 = (putRow fe w blk off d0).drewN k0) := hk0
          have HP0 : Hid _ := hP0
          have HB0 : Hid _ := hB0
          obtain ⟨c, hc⟩ : ∃ c, c = 2 * bs := ⟨_, rfl⟩
          have e20 : (2 : Int) * (bs : Int) = (c : Int) := by omega
          have hc1 : bs < c := by omega
          have hc2 : c < 2305843009213693952 := by omega
          have HC : Hid (c = 2 * bs) := hc
          clear hc
          clear hk0 hP0 hB0 HR
          have hs0 : d0.size = d.size := HP0.out.1
          have hF0 : Hid (Fit d0) := HF.out.perm (Nat.le_refl _) HP0.out
          have HS0 : Hid (d0.size = d.size) := hs0
          clear hs0
          go_wp2
          go_loopw [7, 8] (fun va vb wr => ∃ (x y q2 : Nat), va = .int .i64 x ∧ vb = .int .i64 y ∧ x < y ∧ y < 4611686018427387904 ∧ x ≤ d.size ∧ Hid (y = x + c) ∧ Hid (x = q2 * (2 * bs)) ∧ Hid (Row w blk off (Upto (2 * bs) q2 d0) wr)) (fun va _ _ => d.size - (intOf va).toNat)
          case atStart => exact ⟨0, c, 0, rfl, rfl, by omega, by omega, by omega, (show c = 0 + c by omega), (show 0 = 0 * (2 * bs) by omega), ⟨k0, d0, HK.out, upto_start _ _⟩⟩
          case round =>
            clear HK
            obtain ⟨x, y, q2, rfl, rfl, hxy, hyb, hxd, HY, HX, HR⟩ := hrel
            rename World => W2
            obtain ⟨m, hm⟩ : ∃ m, m = x + bs := ⟨_, rfl⟩
            have em : (x : Int) + (bs : Int) = (m : Int) := by omega
            have hm1 : x < m := by omega
            have HM : Hid (m = x + bs) := hm
            have hmy : m < y := by have := HY.out; have := HC.out; omega
            clear hm
            have HPP : Hid (∀ d1, Upto (2 * bs) q2 d0 d1 → d1.size = d.size ∧ Fit d1) := fun d1 h => ⟨h.1.1.trans HS0.out, hF0.out.perm (by rw [← HX.out, HS0.out]; exact hxd) h.1⟩
            by_cases hlt3 : y ≤ d.size
            · have KP : Hid (∀ d1, Upto (2 * bs) q2 d0 d1 → d1.size = d.size ∧ Fit d1 ∧ SortedIn ltK x m d1 ∧ SortedIn ltK m y d1) := fun d1 h => by
                have e1 := HX.out; have e2 := HY.out; have e3 := HC.out; have e4 := HM.out
                obtain ⟨p1, p2⟩ := parts_of HB0.out h
                rw [← e1, Nat.min_eq_left (by omega)] at p1 p2
                rw [e4]
                exact ⟨(HPP.out d1 h).1, (HPP.out d1 h).2, p1, by rw [show y = x + bs + bs by omega]; exact p2⟩
              have KQ : Hid (∀ d1 d2, Upto (2 * bs) q2 d0 d1 → PermIn x y d1 d2 → SortedIn ltK x y d2 → Upto (2 * bs) (q2 + 1) d0 d2) := fun d1 d2 h hP hS => by
                have e1 := HX.out; have e2 := HY.out; have e3 := HC.out; have e5 := HS0.out
                rw [e2, e3, e1] at hP hS
                exact upto_step h hP hS (by omega)
              go_wp2_with (go_at_call 85; (with_reducible refine (sym_row HH HR (by omega) hm1 hmy hlt3 KP.out KQ.out).mono ?_); rintro e w' ⟨rfl, HR2⟩)
              clear KP KQ HR HPP
              go_roundw
              case rel => exact ⟨y, y + c, q2 + 1, rfl, by go_num, by omega, by omega, hlt3, rfl, (by have e1 := HX.out; have e2 := HY.out; have e3 := HC.out; show y = (q2 + 1) * (2 * bs); rw [Nat.succ_mul, ← e1]; omega), HR2⟩
              case measure => simp [intOf]; omega
            · by_cases hlt4 : m < d.size
              · have KP : Hid (∀ d1, Upto (2 * bs) q2 d0 d1 → d1.size = d.size ∧ Fit d1 ∧ SortedIn ltK x m d1 ∧ SortedIn ltK m d.size d1) := fun d1 h => by
                  have e1 := HX.out; have e2 := HY.out; have e3 := HC.out; have e4 := HM.out
                  obtain ⟨p1, p2⟩ := parts_of HB0.out h
                  rw [← e1, Nat.min_eq_left (by omega)] at p1
                  rw [← e1, Nat.min_eq_right (by omega)] at p2
                  rw [e4]
                  exact ⟨(HPP.out d1 h).1, (HPP.out d1 h).2, p1, p2⟩
                have KQ : Hid (∀ d1 d2, Upto (2 * bs) q2 d0 d1 → PermIn x d.size d1 d2 → SortedIn ltK x d.size d2 → PermIn 0 d.size d d2 ∧ Blocks c d.size d2) := fun d1 d2 h hP hS => by
                  have e1 := HX.out; have e2 := HY.out; have e3 := HC.out; have e5 := HS0.out
                  rw [e1] at hP hS
                  rw [e3]
                  obtain ⟨r1, r2⟩ := blocks_end h hP hS e5.symm (by omega) (by omega)
                  exact ⟨permIn_trans _ _ _ _ _ HP0.out r1, r2⟩
                go_wp2_with (go_at_call 85; (with_reducible refine (sym_row HH HR (by omega) hm1 hlt4 (Nat.le_refl _) KP.out KQ.out).mono ?_); rintro e w' ⟨rfl, HR2⟩)
                clear KP KQ HR HPP
                go_roundw
                case rel => exact ⟨c, by first | rfl | go_num, by omega, by have := HC.out; omega, HR2⟩
                case measure => simp [intOf]; omega
              · have KR : Hid (Row w blk off (fun d1 => PermIn 0 d.size d d1 ∧ Blocks c d.size d1) W2) := by
                  have e1 := HX.out; have e2 := HY.out; have e3 := HC.out; have e4 := HM.out; have e5 := HS0.out
                  obtain ⟨k, d1, hk, h⟩ := HR.out
                  have p1 := (parts_of HB0.out h).1
                  rw [Nat.min_eq_right (by omega)] at p1
                  obtain ⟨r1, r2⟩ := blocks_end h (permIn_refl _ _ _) p1 e5.symm (by omega) (by omega)
                  rw [e3]
                  exact ⟨k, d1, hk, permIn_trans _ _ _ _ _ HP0.out r1, r2⟩
                go_wp2
                go_roundw
                case rel => exact ⟨c, by first | rfl | go_num, by omega, by have := HC.out; omega, KR⟩
                case measure => simp [intOf]; omega
        · go_wp2
          go_end0
          obtain ⟨k, d1, hk, hP, hB⟩ := HR.out
          refine ⟨rfl, k, d1, hk, hP, ?_⟩
          have h0 := hB 0
          rw [Nat.zero_mul, Nat.zero_add, Nat.min_eq_right (by omega)] at h0
          exact h0

theorem t77 (blk off cap : Nat) (d : Array Nat) (w : World) (hH : Holds fe w blk off d) (hF : Fit d) (hsz : d.size < 1152921504606846976) :
    Calls Try.prog 77 #[.slice (some ⟨blk, off, none⟩) d.size cap, ord29] w fun e w' => e = .returned (.tuple #[]) ∧ ∃ k d', w' = (putRow fe w blk off d').drewN k ∧ PermIn 0 d.size d d' ∧ SortedIn ltK 0 d.size d' := by
  have HH : Hid (Holds fe w blk off d) := hH
  have HF : Hid (Fit d) := hF
  clear hH hF
  go_enter Try.func77, Try.ntmps77
  go_wp2_with (go_at_call 82; refine (t82 _ _ _ _ _ HH.out HF.out hsz).mono ?_; rintro e w' ⟨rfl, HR⟩)
  go_end0
  exact ⟨rfl, HR⟩
end Go.Proofs.Ytfggdaebahdnfaa

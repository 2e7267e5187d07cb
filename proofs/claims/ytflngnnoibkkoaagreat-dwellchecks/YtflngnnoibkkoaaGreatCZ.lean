/- The stable sort of a row of floats. -/
import Derived.Test.YtflngnnoibkkoaaGreatCY
import Derived.Test.YtflngnnoibkkoaaGreatCA
import Derived.Test.YtflngnnoibkkoaaGreatCF
import Derived.BigQuiet
namespace Go.Proofs.YtflngnnoibkkoaaGreat.Cf
open Go.ChangeShapes Go.WideShapes Go.ChangeAt Go.RowKit Go.Fl Go.Sort
set_option maxRecDepth 200000
set_option maxHeartbeats 8000000
attribute [local go_sem] run_store_float call35 call46 run_neg fold_eq fold_ne fold_lt fold_gt abs_eq

/-- A row of the walk's, and what is known of it. -/
def Row (w : World) (blk off : Nat) (P : Array Nat → Prop) (W : World) : Prop := ∃ k d, W = (putRow fe w blk off d).drewN k ∧ P d
/-- Each block of bs places is sorted. -/
def Blocks (bs N : Nat) (d : Array Nat) : Prop := ∀ q, SortedIn ltK (q * bs) (min (q * bs + bs) N) d
/-- The first q blocks are sorted; from there on all is as it was in d0. -/
def Upto (bs q : Nat) (d0 d : Array Nat) : Prop := PermIn 0 (q * bs) d0 d ∧ ∀ p, p < q → SortedIn ltK (p * bs) (p * bs + bs) d

theorem upto_start (bs : Nat) (d : Array Nat) : Upto bs 0 d d := ⟨permIn_refl _ _ _, fun p h => by omega⟩
theorem block_le {p q bs : Nat} (h : p < q) : p * bs + bs ≤ q * bs := by
  rw [← Nat.succ_mul]; exact Nat.mul_le_mul_right _ h
theorem upto_step {bs q : Nat} {d0 d d' : Array Nat} (h : Upto bs q d0 d) (hP : PermIn (q * bs) (q * bs + bs) d d') (hS : SortedIn ltK (q * bs) (q * bs + bs) d') (hb : q * bs + bs ≤ d0.size) : Upto bs (q + 1) d0 d' := by
  have hs : d.size = d0.size := h.1.1
  refine ⟨?_, fun p hp => ?_⟩
  · rw [Nat.succ_mul]
    exact permIn_trans _ _ _ _ _ (permIn_mono _ _ _ _ _ _ (Nat.le_refl _) (by omega) hb h.1) (permIn_mono _ _ _ _ _ _ (by omega) (Nat.le_refl _) (by omega) hP)
  · rcases Nat.lt_or_ge p q with hlt | hge
    · have := block_le (bs := bs) hlt
      exact sorted_congr (h.2 p hlt) fun x k1 k2 => hP.2.1 x (Or.inl (by omega))
    · obtain rfl : p = q := by omega
      exact hS
/-- The last block, which may be short. -/
theorem blocks_end {bs q N : Nat} {d0 d d' : Array Nat} (h : Upto bs q d0 d) (hP : PermIn (q * bs) N d d') (hS : SortedIn ltK (q * bs) N d') (hN : N = d0.size) (hq : q * bs ≤ N) (hb : N < q * bs + bs) : PermIn 0 N d0 d' ∧ Blocks bs N d' := by
  have hs : d.size = d0.size := h.1.1
  refine ⟨permIn_trans _ _ _ _ _ (permIn_mono _ _ _ _ _ _ (Nat.le_refl _) hq (by omega) h.1) (permIn_mono _ _ _ _ _ _ (by omega) (Nat.le_refl _) (by omega) hP), fun p => ?_⟩
  rcases Nat.lt_trichotomy p q with hlt | rfl | hgt
  · have := block_le (bs := bs) hlt
    rw [Nat.min_eq_left (by omega)]
    exact sorted_congr (h.2 p hlt) fun x k1 k2 => hP.2.1 x (Or.inl (by omega))
  · rw [Nat.min_eq_right (by omega)]; exact hS
  · have := block_le (bs := bs) hgt
    intro x y k1 k2 k3
    omega

/-- The two parts of a block of 2 bs that starts at a, in a row that is as it was there. -/
theorem parts_of {bs q N : Nat} {d0 d : Array Nat} (hB : Blocks bs N d0) (h : Upto (2 * bs) q d0 d) : SortedIn ltK (q * (2 * bs)) (min (q * (2 * bs) + bs) N) d ∧ SortedIn ltK (q * (2 * bs) + bs) (min (q * (2 * bs) + bs + bs) N) d := by
  have e1 : (2 * q) * bs = q * (2 * bs) := by rw [Nat.mul_comm 2 q, Nat.mul_assoc]
  have e2 : (2 * q + 1) * bs = q * (2 * bs) + bs := by rw [Nat.succ_mul, e1]
  have h1 := hB (2 * q)
  have h2 := hB (2 * q + 1)
  rw [e1] at h1
  rw [e2] at h2
  exact ⟨sorted_congr h1 fun x k1 k2 => h.1.2.1 x (Or.inr k1), sorted_congr h2 fun x k1 k2 => h.1.2.1 x (Or.inr (by omega))⟩

theorem ins_row {w W : World} {blk off cap a b : Nat} {d0 : Array Nat} {P Q : Array Nat → Prop} (hH : Hid (Holds fe w blk off d0)) (hR : Hid (Row w blk off P W)) (hsz : d0.size < 4611686018427387904) (hab : a ≤ b) (hb : b ≤ d0.size) (hP : ∀ d, P d → d.size = d0.size ∧ Fit d) (hQ : ∀ d d', P d → PermIn a b d d' → SortedIn ltK a b d' → Q d') :
    Calls Tryz.prog 250 #[.slice (some ⟨blk, off, none⟩) d0.size cap, .int .i64 a, .int .i64 b, ord29] W fun e w' => e = .returned (.tuple #[]) ∧ Hid (Row w blk off Q w') := by
  obtain ⟨k, d, hk, hp⟩ := hR.out
  obtain ⟨hs, hF⟩ := hP d hp
  have h := t84 blk off cap a b d W (by rw [hk]; exact holds_putRow fe w blk off d0 d hH.out hs) hF hab (by omega) (by omega)
  rw [hs] at h
  refine h.mono fun e w' ⟨he, k', d', hw, hP, hS⟩ => ⟨he, k + k', d', ?_, hQ d d' hp hP hS⟩
  rw [hw, hk, row_on _ _ _ _ _ _ _ hP.1]
theorem sym_row {w W : World} {blk off cap a m b : Nat} {d0 : Array Nat} {P Q : Array Nat → Prop} (hH : Hid (Holds fe w blk off d0)) (hR : Hid (Row w blk off P W)) (hsz : d0.size < 4611686018427387904) (ham : a < m) (hmb : m < b) (hb : b ≤ d0.size) (hP : ∀ d, P d → d.size = d0.size ∧ Fit d ∧ SortedIn ltK a m d ∧ SortedIn ltK m b d) (hQ : ∀ d d', P d → PermIn a b d d' → SortedIn ltK a b d' → Q d') :
    Calls Tryz.prog 251 #[.slice (some ⟨blk, off, none⟩) d0.size cap, .int .i64 a, .int .i64 m, .int .i64 b, ord29] W fun e w' => e = .returned (.tuple #[]) ∧ Hid (Row w blk off Q w') := by
  obtain ⟨k, d, hk, hp⟩ := hR.out
  obtain ⟨hs, hF, h1, h2⟩ := hP d hp
  refine (t85 blk off cap a m b d0.size d W hs (by rw [hk]; exact holds_putRow fe w blk off d0 d hH.out hs) hF ham hmb hb hsz h1 h2).mono fun e w' ⟨he, k', d', hw, hP, hS⟩ => ⟨he, k + k', d', ?_, hQ d d' hp hP hS⟩
  rw [hw, hk, row_on _ _ _ _ _ _ _ hP.1]

set_option maxHeartbeats 4000000 in
theorem t82 (blk off cap : Nat) (d : Array Nat) (w : World) (hH : Holds fe w blk off d) (hF : Fit d) (hsz : d.size < 1152921504606846976) :
    Calls Tryz.prog 239 #[.slice (some ⟨blk, off, none⟩) d.size cap, .int .i64 d.size, ord29] w fun e w' => e = .returned (.tuple #[]) ∧ ∃ k d', w' = (putRow fe w blk off d').drewN k ∧ PermIn 0 d.size d d' ∧ SortedIn ltK 0 d.size d' := by
  have HH : Hid (Holds fe w blk off d) := hH
  have HF : Hid (Fit d) := hF
  have HST : Hid (w = (putRow fe w blk off d).drewN 0) := (putRow_self fe w blk off d hH).symm
  clear hH hF
  go_enter Tryz.func239, Tryz.ntmps239
  go_wp2
  go_loopw [7, 8] (fun va vb wr => ∃ (a b q : Nat), va = .int .i64 a ∧ vb = .int .i64 b ∧ b = a + 20 ∧ a ≤ d.size ∧ Hid (a = q * 20) ∧ Hid (Row w blk off (Upto 20 q d) wr)) (fun va _ _ => d.size - (intOf va).toNat)
  case atStart => exact ⟨0, 20, 0, rfl, rfl, rfl, by omega, rfl, ⟨0, d, HST.out, upto_start _ _⟩⟩
  case round =>
    obtain ⟨a, b, q, rfl, rfl, hb, ha, HA, HR⟩ := hrel
    have HB : Hid (b = a + 20) := hb
    have hbb : b < 2000000000000000000 := by omega
    have hab : a < b := by omega
    clear hb
    by_cases hlt : b ≤ d.size
    · have KP : Hid (∀ d1, Upto 20 q d d1 → d1.size = d.size ∧ Fit d1) := fun d1 h => ⟨h.1.1, HF.out.perm (by rw [← HA.out]; exact ha) h.1⟩
      have KQ : Hid (∀ d1 d2, Upto 20 q d d1 → PermIn a b d1 d2 → SortedIn ltK a b d2 → Upto 20 (q + 1) d d2) := fun d1 d2 h hP hS => by
        have e1 := HA.out
        have e2 := HB.out
        rw [e2, e1] at hP hS
        exact upto_step h hP hS (by omega)
      go_wp2_with (go_at_call 250; (with_reducible refine (ins_row HH HR (by omega) (by omega) hlt KP.out KQ.out).mono ?_); rintro e w' ⟨rfl, HR2⟩)
      clear KP KQ HR
      go_roundw
      case rel => exact ⟨b, b + 20, q + 1, rfl, by go_num, rfl, hlt, (by have e1 := HA.out; have e2 := HB.out; show _ = _; omega), HR2⟩
      case measure => simp [intOf]; omega
    · have KP : Hid (∀ d1, Upto 20 q d d1 → d1.size = d.size ∧ Fit d1) := fun d1 h => ⟨h.1.1, HF.out.perm (by rw [← HA.out]; exact ha) h.1⟩
      have KQ : Hid (∀ d1 d2, Upto 20 q d d1 → PermIn a d.size d1 d2 → SortedIn ltK a d.size d2 → PermIn 0 d.size d d2 ∧ Blocks 20 d.size d2) := fun d1 d2 h hP hS => by
        have e1 := HA.out
        have e2 := HB.out
        rw [e1] at hP hS
        exact blocks_end h hP hS rfl (by omega) (by omega)
      go_wp2_with (go_at_call 250; (with_reducible refine (ins_row HH HR (by omega) ha (Nat.le_refl _) KP.out KQ.out).mono ?_); rintro e w' ⟨rfl, HR2⟩)
      clear KP KQ HR
      go_loopw [6, 7, 8, 9] (fun vs _ _ _ wr => ∃ (bs : Nat), vs = .int .i64 bs ∧ 20 ≤ bs ∧ (bs = 20 ∨ bs < 2 * d.size) ∧ Hid (Row w blk off (fun d1 => PermIn 0 d.size d d1 ∧ Blocks bs d.size d1) wr)) (fun vs _ _ _ _ => d.size - (intOf vs).toNat)
      case atStart => exact ⟨20, rfl, by omega, by omega, HR2⟩
      case round =>
        clear HR2
        obtain ⟨bs, rfl, hbs, hbs2, HR⟩ := hrel
        rename World => W1
        by_cases hlt2 : bs < d.size
        · obtain ⟨k0, d0, hk0, hP0, hB0⟩ := HR.out
          have HK : Hid (W1 = (putRow fe w blk off d0).drewN k0) := hk0
          have HP0 : Hid _ := hP0
          have HB0 : Hid _ := hB0
          obtain ⟨c, hc⟩ : ∃ c, c = 2 * bs := ⟨_, rfl⟩
          have e20 : (2 : Int) * (bs : Int) = (c : Int) := by omega
          have hc1 : bs < c := by omega
          have hc2 : c < 2305843009213693952 := by omega
          have HC : Hid (c = 2 * bs) := hc
          clear hc
          clear hk0 hP0 hB0 HR
          have hs0 : d0.size = d.size := HP0.out.1
          have hF0 : Hid (Fit d0) := HF.out.perm (Nat.le_refl _) HP0.out
          have HS0 : Hid (d0.size = d.size) := hs0
          clear hs0
          go_wp2
          go_loopw [7, 8] (fun va vb wr => ∃ (x y q2 : Nat), va = .int .i64 x ∧ vb = .int .i64 y ∧ x < y ∧ y < 4611686018427387904 ∧ x ≤ d.size ∧ Hid (y = x + c) ∧ Hid (x = q2 * (2 * bs)) ∧ Hid (Row w blk off (Upto (2 * bs) q2 d0) wr)) (fun va _ _ => d.size - (intOf va).toNat)
          case atStart => exact ⟨0, c, 0, rfl, rfl, by omega, by omega, by omega, (show c = 0 + c by omega), (show 0 = 0 * (2 * bs) by omega), ⟨k0, d0, HK.out, upto_start _ _⟩⟩
          case round =>
            clear HK
            obtain ⟨x, y, q2, rfl, rfl, hxy, hyb, hxd, HY, HX, HR⟩ := hrel
            rename World => W2
            obtain ⟨m, hm⟩ : ∃ m, m = x + bs := ⟨_, rfl⟩
            have em : (x : Int) + (bs : Int) = (m : Int) := by omega
            have hm1 : x < m := by omega
            have HM : Hid (m = x + bs) := hm
            have hmy : m < y := by have := HY.out; have := HC.out; omega
            clear hm
            have HPP : Hid (∀ d1, Upto (2 * bs) q2 d0 d1 → d1.size = d.size ∧ Fit d1) := fun d1 h => ⟨h.1.1.trans HS0.out, hF0.out.perm (by rw [← HX.out, HS0.out]; exact hxd) h.1⟩
            by_cases hlt3 : y ≤ d.size
            · have KP : Hid (∀ d1, Upto (2 * bs) q2 d0 d1 → d1.size = d.size ∧ Fit d1 ∧ SortedIn ltK x m d1 ∧ SortedIn ltK m y d1) := fun d1 h => by
                have e1 := HX.out; have e2 := HY.out; have e3 := HC.out; have e4 := HM.out
                obtain ⟨p1, p2⟩ := parts_of HB0.out h
                rw [← e1, Nat.min_eq_left (by omega)] at p1 p2
                rw [e4]
                exact ⟨(HPP.out d1 h).1, (HPP.out d1 h).2, p1, by rw [show y = x + bs + bs by omega]; exact p2⟩
              have KQ : Hid (∀ d1 d2, Upto (2 * bs) q2 d0 d1 → PermIn x y d1 d2 → SortedIn ltK x y d2 → Upto (2 * bs) (q2 + 1) d0 d2) := fun d1 d2 h hP hS => by
                have e1 := HX.out; have e2 := HY.out; have e3 := HC.out; have e5 := HS0.out
                rw [e2, e3, e1] at hP hS
                exact upto_step h hP hS (by omega)
              go_wp2_with (go_at_call 251; (with_reducible refine (sym_row HH HR (by omega) hm1 hmy hlt3 KP.out KQ.out).mono ?_); rintro e w' ⟨rfl, HR2⟩)
              clear KP KQ HR HPP
              go_roundw
              case rel => exact ⟨y, y + c, q2 + 1, rfl, by go_num, by omega, by omega, hlt3, rfl, (by have e1 := HX.out; have e2 := HY.out; have e3 := HC.out; show y = (q2 + 1) * (2 * bs); rw [Nat.succ_mul, ← e1]; omega), HR2⟩
              case measure => simp [intOf]; omega
            · by_cases hlt4 : m < d.size
              · have KP : Hid (∀ d1, Upto (2 * bs) q2 d0 d1 → d1.size = d.size ∧ Fit d1 ∧ SortedIn ltK x m d1 ∧ SortedIn ltK m d.size d1) := fun d1 h => by
                  have e1 := HX.out; have e2 := HY.out; have e3 := HC.out; have e4 := HM.out
                  obtain ⟨p1, p2⟩ := parts_of HB0.out h
                  rw [← e1, Nat.min_eq_left (by omega)] at p1
                  rw [← e1, Nat.min_eq_right (by omega)] at p2
                  rw [e4]
                  exact ⟨(HPP.out d1 h).1, (HPP.out d1 h).2, p1, p2⟩
                have KQ : Hid (∀ d1 d2, Upto (2 * bs) q2 d0 d1 → PermIn x d.size d1 d2 → SortedIn ltK x d.size d2 → PermIn 0 d.size d d2 ∧ Blocks c d.size d2) := fun d1 d2 h hP hS => by
                  have e1 := HX.out; have e2 := HY.out; have e3 := HC.out; have e5 := HS0.out
                  rw [e1] at hP hS
                  rw [e3]
                  obtain ⟨r1, r2⟩ := blocks_end h hP hS e5.symm (by omega) (by omega)
                  exact ⟨permIn_trans _ _ _ _ _ HP0.out r1, r2⟩
                go_wp2_with (go_at_call 251; (with_reducible refine (sym_row HH HR (by omega) hm1 hlt4 (Nat.le_refl _) KP.out KQ.out).mono ?_); rintro e w' ⟨rfl, HR2⟩)
                clear KP KQ HR HPP
                go_roundw
                case rel => exact ⟨c, by first | rfl | go_num, by omega, by have := HC.out; omega, HR2⟩
                case measure => simp [intOf]; omega
              · have KR : Hid (Row w blk off (fun d1 => PermIn 0 d.size d d1 ∧ Blocks c d.size d1) W2) := by
                  have e1 := HX.out; have e2 := HY.out; have e3 := HC.out; have e4 := HM.out; have e5 := HS0.out
                  obtain ⟨k, d1, hk, h⟩ := HR.out
                  have p1 := (parts_of HB0.out h).1
                  rw [Nat.min_eq_right (by omega)] at p1
                  obtain ⟨r1, r2⟩ := blocks_end h (permIn_refl _ _ _) p1 e5.symm (by omega) (by omega)
                  rw [e3]
                  exact ⟨k, d1, hk, permIn_trans _ _ _ _ _ HP0.out r1, r2⟩
                go_wp2
                go_roundw
                case rel => exact ⟨c, by first | rfl | go_num, by omega, by have := HC.out; omega, KR⟩
                case measure => simp [intOf]; omega
        · go_wp2
          go_end0
          obtain ⟨k, d1, hk, hP, hB⟩ := HR.out
          refine ⟨rfl, k, d1, hk, hP, ?_⟩
          have h0 := hB 0
          rw [Nat.zero_mul, Nat.zero_add, Nat.min_eq_right (by omega)] at h0
          exact h0

theorem t77 (blk off cap : Nat) (d : Array Nat) (w : World) (hH : Holds fe w blk off d) (hF : Fit d) (hsz : d.size < 1152921504606846976) :
    Calls Tryz.prog 215 #[.slice (some ⟨blk, off, none⟩) d.size cap, ord29] w fun e w' => e = .returned (.tuple #[]) ∧ ∃ k d', w' = (putRow fe w blk off d').drewN k ∧ PermIn 0 d.size d d' ∧ SortedIn ltK 0 d.size d' := by
  have HH : Hid (Holds fe w blk off d) := hH
  have HF : Hid (Fit d) := hF
  clear hH hF
  go_enter Tryz.func215, Tryz.ntmps215
  go_wp2_with (go_at_call 239; refine (t82 _ _ _ _ _ HH.out HF.out hsz).mono ?_; rintro e w' ⟨rfl, HR⟩)
  go_end0
  exact ⟨rfl, HR⟩
end Go.Proofs.YtflngnnoibkkoaaGreat.Cf
/- The copy of a row of floats. -/
namespace Go.Proofs.YtflngnnoibkkoaaGreat.Cf
open Go.ChangeShapes Go.WideShapes Go.ChangeAt Go.RowKit Go.Fl Go.Sort
set_option maxRecDepth 200000
set_option maxHeartbeats 8000000
attribute [local go_sem] run_store_float call35 call46 run_neg fold_eq fold_ne fold_lt fold_gt abs_eq eql_nil
set_option maxHeartbeats 1000000 in
theorem t76 (blk off cap : Nat) (d : Array Nat) (w : World) (hR : Reads w blk off d) (hp : 0 < d.size) (hb : d.size * 8 ≤ 140737488355328) :
    Calls Tryz.prog 214 #[.slice (some ⟨blk, off, none⟩) d.size cap] w fun e w' => ∃ v, e = .returned v ∧ Hid (Own w.heap.size w' v d) ∧ Hid (Up w w') := by
  obtain ⟨i0, hi, hz0, hz1, hz2⟩ := info_parts info23
  have HR : Hid (Reads w blk off d) := hR
  clear hR
  have hown : (w.alloc (.cells #[] 22)).ownsRow w.heap.size 22 1 (.slice (some ⟨w.heap.size, 0, none⟩) 0 0) 0 [] := own_empty w
  go_enter Tryz.func214, Tryz.ntmps214
  go_wp2_with (at_builtin; refine wpList_append_own _ rfl _ _ 47 rfl w.heap.size 22 i0 (.float .f64 0) 1 8 Tryz.underlying47 hi hz0 hz1 hz2 rfl (by decide) _ _ _ rfl hown ⟨blk, off, none⟩ d.size cap (d.toList.map fe) rfl (by simp) (reads_news (HR.out.up (Up.alloc _ _))) (one_cells _) (by unfold maxLen; omega) (by omega) (by simp) ?_)
  intro v' w1 hown' hgrow _
  have O : Hid (Own w.heap.size w1 v' d) := own_of hp (by simpa using hown')
  have U : Hid (Up w w1) := RowKit.Below.grown ((Below.refl _ _).alloc (Nat.le_refl _) _) hgrow (by simp) (fun k hk => by simp [Value.ownBlock] at hk; omega)
  clear hown' hgrow hown
  go_wp2
  go_ret
  exact ⟨_, rfl, O, U⟩
end Go.Proofs.YtflngnnoibkkoaaGreat.Cf
/- The float that has just n ahead of it: the program's. -/
namespace Go.Proofs.YtflngnnoibkkoaaGreat.Cf
open Go.ChangeShapes Go.WideShapes Go.ChangeAt Go.RowKit Go.Fl Go.Sort
set_option maxRecDepth 200000
set_option maxHeartbeats 8000000
attribute [local go_sem] run_store_float call35 call46 run_neg fold_eq fold_ne fold_lt fold_gt abs_eq

/-- The keys in their order. -/
def keys (l : List Nat) : List Nat := (l.map key).mergeSort fun x y => decide (x ≤ y)
theorem keys_pair (l : List Nat) : (keys l).Pairwise fun x y => x ≤ y := by
  have h := List.pairwise_mergeSort (le := fun x y : Nat => decide (x ≤ y)) (fun a b c h1 h2 => by simp only [decide_eq_true_eq] at *; omega) (fun a b => by simp only [Bool.or_eq_true, decide_eq_true_eq]; omega) (l.map key)
  exact h.imp fun h => by simpa using h
theorem keys_of {l l' : List Nat} (hp : l'.Perm l) (hs : l'.Pairwise fun x y => key x ≤ key y) : l'.map key = keys l := by
  refine List.Perm.eq_of_pairwise (le := fun x y : Nat => x ≤ y) (fun a b _ _ h1 h2 => Nat.le_antisymm h1 h2) (List.pairwise_map.2 hs) (keys_pair l) ?_
  exact (hp.map key).trans (List.mergeSort_perm _ _).symm
/-- The key that has just n ahead of it. -/
def kth (d : Array Nat) (n : Nat) : Nat := (keys d.toList)[n]!
theorem kth_of {d d' : Array Nat} {n : Nat} (hP : PermIn 0 d.size d d') (hS : SortedIn ltK 0 d.size d') (hn : n < d.size) : key d'[n]! = kth d n := by
  have hs : d'.size = d.size := hP.1
  have e1 : (d'.extract 0 d.size).toList = d'.toList := by rw [← hs]; simp
  have e2 : (d.extract 0 d.size).toList = d.toList := by simp
  have hp : d'.toList.Perm d.toList := by have := hP.2.2; rwa [e1, e2] at this
  have hw : d'.toList.Pairwise fun x y => key x ≤ key y := by
    rw [List.pairwise_iff_getElem]
    intro i j hi hj hij
    have hi' : i < d'.size := by simpa using hi
    have hj' : j < d'.size := by simpa using hj
    have := ltK_false.1 (hS i j (by omega) hij (by omega))
    rw [getElem!_pos d' i hi', getElem!_pos d' j hj'] at this
    simpa using this
  have hk := keys_of hp hw
  unfold kth
  rw [← hk]
  have hn' : n < d'.size := by omega
  rw [getElem!_pos d' n hn', getElem!_pos _ n (by simpa using hn')]
  simp
/-- What a call of Nth hands back. -/
def NR (w : World) (d : Array Nat) (k : Nat) (e : Ending) (w' : World) : Prop := ∃ x, e = .returned (.tuple #[.float .f64 x, .int .i64 0]) ∧ Hid (x < 2 ^ 64 ∧ key x = kth d k) ∧ Hid (Up w w')

theorem t70bad (p : Option Addr) (N cap : Nat) (n : Int) (w : World) (hn : n < 0 ∨ (N : Int) ≤ n) :
    Calls Tryz.prog 197 #[.slice p N cap, .int .i64 n] w fun e w' => e = .returned (.tuple #[.float .f64 0, .int .i64 2]) ∧ w' = w := by
  rcases Int.lt_or_le n 0 with h | h
  · go_enter Tryz.func197, Tryz.ntmps197
    go_wp2
    go_ret2
    exact ⟨rfl, rfl⟩
  · have h1 : ¬ n < 0 := by omega
    have h2 : (N : Int) ≤ n := by omega
    go_enter Tryz.func197, Tryz.ntmps197
    go_wp2
    go_ret2
    exact ⟨rfl, rfl⟩

theorem sort_own {b : Nat} {w0 w : World} {v : Value} {d : Array Nat} (HO : Hid (Own b w v d)) (hF : Fit d) (hsz : d.size < 1152921504606846976) (hb : w0.heap.size ≤ b) (HU : Hid (Up w0 w)) :
    Calls Tryz.prog 215 #[v, ord29] w fun e w' => e = .returned (.tuple #[]) ∧ ∃ g cap d', Hid (v = .slice (some ⟨g, 0, none⟩) d.size cap) ∧ Hid (Holds fe w' g 0 d') ∧ Hid (PermIn 0 d.size d d') ∧ Hid (SortedIn ltK 0 d.size d') ∧ Hid (Up w0 w') := by
  obtain ⟨g, cap, rfl, hg, _, hH⟩ := HO.out
  refine (t77 g 0 cap d w hH hF hsz).mono fun e w' ⟨he, k, d', hw, hP, hS⟩ => ⟨he, g, cap, d', rfl, ?_, hP, hS, ?_⟩
  · rw [hw]; exact holds_putRow fe w g 0 d d' hH hP.1
  · rw [hw]; exact (Up.putRow HU.out (by omega) 0 d').trans (Up.drewN _ _)

set_option maxHeartbeats 1000000 in
theorem t70 (blk off cap k : Nat) (d : Array Nat) (w : World) (hR : Reads w blk off d) (hF : Fit d) (hk : k < d.size) (hb : d.size * 8 ≤ 140737488355328) :
    Calls Tryz.prog 197 #[.slice (some ⟨blk, off, none⟩) d.size cap, .int .i64 k] w (NR w d k) := by
  have HR : Hid (Reads w blk off d) := hR
  have HF : Hid (Fit d) := hF
  clear hR hF
  have hk1 : ¬ (k : Int) < 0 := by omega
  have hk2 : (k : Int) < (d.size : Int) := by omega
  have hk3 : ¬ (d.size : Int) ≤ (k : Int) := by omega
  go_enter Tryz.func197, Tryz.ntmps197
  go_wp2_with (first
    | (go_at_call 214; refine (t76 _ _ _ _ _ HR.out (by omega) hb).mono ?_; rintro e w1 ⟨v, rfl, HO, HU⟩)
    | (go_at_call 215; refine (sort_own HO HF.out (by omega) (Nat.le_refl _) HU).mono ?_; rintro e w2 ⟨rfl, g, cap2, d2, HV, HH, HP, HS, HU2⟩; have hv := HV.out; subst hv; obtain ⟨x, hx⟩ : ∃ x, d2[k]! = x := ⟨_, rfl⟩; have hc := (HH.out k (by rw [HP.out.1]; exact hk)).1; rw [Nat.zero_add, hx] at hc; have HX : Hid _ := hx; clear HO hx))
  go_ret2
  refine ⟨x, rfl, ⟨?_, ?_⟩, HU2⟩
  · have h := HF.out.perm (Nat.le_refl _) HP.out
    have h2 := h k (by rw [HP.out.1]; exact hk)
    rw [HX.out] at h2
    exact h2
  · rw [← HX.out]; exact kth_of HP.out HS.out hk
end Go.Proofs.YtflngnnoibkkoaaGreat.Cf
/- The levellers: the mean of all, one side's mean, what stands at a place in order; the table of them. -/
namespace Go.Proofs.YtflngnnoibkkoaaGreat.Cf
open Go.ChangeShapes Go.WideShapes Go.ChangeAt Go.RowKit Go.Fl Go.Sort
set_option maxRecDepth 200000
set_option maxHeartbeats 8000000
attribute [local go_sem] run_store_float call35 call46 run_neg fold_eq fold_ne fold_lt fold_gt abs_eq

/-- The float of a key. -/
def unk (k : Nat) : Option Nat := if k = 2 ^ 64 - 1 then none else some (if 2 ^ 63 ≤ k then k - 2 ^ 63 else 2 ^ 64 - 1 - k)
theorem unk_key {x : Nat} (h : x < 2 ^ 64) : unk (key x) = ab x := by
  cases hN : isN x with
  | true => rw [key_nan hN, ab_none hN]; rfl
  | false =>
    have h1 := key_num hN h
    rw [ab_some hN]
    have e : key x = if x < 2 ^ 63 then x + 2 ^ 63 else 2 ^ 64 - 1 - x := by simp only [key, hN]; rfl
    unfold unk
    rw [if_neg (by omega), e]
    by_cases hx : x < 2 ^ 63
    · rw [if_pos hx, if_pos (by omega), Nat.add_sub_cancel]
    · rw [if_neg hx, if_neg (by omega), show 2 ^ 64 - 1 - (2 ^ 64 - 1 - x) = x by omega]
/-- What stands at a place in order. -/
def nthD (d : Array Nat) (k : Nat) : Option Nat := unk (kth d k)
theorem nth70 {w : World} {p : Option Addr} {n cap k : Nat} {i : Int} {d : Array Nat} (h : SV w p n cap d) (hi : i = (k : Int)) (hk : k < n) (hn : n ≤ 1000000) : Calls Tryz.prog 197 #[.slice p n cap, .int .i64 i] w fun e w' => ∃ x, e = .returned (.tuple #[.float .f64 x, .int .i64 0]) ∧ Hid (ab x = nthD d k) ∧ Hid (Up w w') := by
  subst hi
  obtain ⟨b, o, rfl, r⟩ := h.rd (by omega)
  have hl := h.len
  subst hl
  refine (t70 b o cap k d w r h.fit hk (by omega)).mono ?_
  rintro e w' ⟨x, he, hx, hu⟩
  exact ⟨x, he, by show _ = _; rw [← unk_key hx.out.1, hx.out.2]; rfl, hu⟩
theorem two_cells (w : World) (a b : Value) (k : Nat) : ((w.alloc (.cells #[a, b] 47)).drewN k).cell? ⟨w.heap.size, 0, none⟩ = some a ∧ ((w.alloc (.cells #[a, b] 47)).drewN k).cell? ⟨w.heap.size, 1, none⟩ = some b := ⟨World.cell?_alloc_at _ _ _ _ rfl, World.cell?_alloc_at _ _ _ _ rfl⟩
theorem cat68 {w : World} {n1 n2 c1 c2 : Nat} {p1 p2 : Option Addr} {d1 d2 : Array Nat} (s1 : SV w p1 n1 c1 d1) (s2 : SV w p2 n2 c2 d2) (b1 : n1 ≤ 20000) (b2 : n2 ≤ 20000) :
    Calls Tryz.prog 195 #[.slice (some ⟨w.heap.size, 0, none⟩) 2 2] (w.alloc (.cells #[.slice p1 n1 c1, .slice p2 n2 c2] 47)) (RV w (n1 + n2) (d1 ++ d2)) :=
  (t68 (two_cells w _ _ 0).1 (two_cells w _ _ 0).2 (s1.up (Up.alloc _ _)) (s2.up (Up.alloc _ _)) b1 b2).mono fun _ _ ⟨p, c, he, hs, hu⟩ => ⟨p, c, he, hs, (Up.alloc _ _).trans hu.out⟩
/-- The mean of all. -/
theorem t59 {w : World} {n1 n2 c1 c2 : Nat} {p1 p2 : Option Addr} {d1 d2 : Array Nat} (nth : Value) (s1 : SV w p1 n1 c1 d1) (s2 : SV w p2 n2 c2 d2) (b1 : n1 ≤ 20000) (b2 : n2 ≤ 20000) (hp : 0 < n1 + n2) :
    Calls Tryz.prog 167 #[.slice p1 n1 c1, .slice p2 n2 c2, nth] w (FU w (meanD (d1 ++ d2))) := by
  have S1 : Hid (SV w p1 n1 c1 d1) := s1
  have S2 : Hid (SV w p2 n2 c2 d2) := s2
  clear s1 s2
  go_enter Tryz.func167, Tryz.ntmps167
  go_wp2_with (first
    | (go_at_call 195; (with_reducible refine (cat68 S1.out S2.out b1 b2).mono ?_); rintro e w1 ⟨p, c, rfl, HS, HU⟩)
    | (go_at_call 194; (with_reducible refine (t67 HS.out hp (by omega)).mono ?_); rintro e w2 ⟨r, rfl, hr, HU2⟩))
  go_ret
  exact FU.mk hr.out (HU.out.trans HU2.out)
set_option maxHeartbeats 1000000 in
theorem t63 {w : World} {n1 n2 c1 c2 k : Nat} {p1 p2 : Option Addr} {d1 d2 : Array Nat} (s1 : SV w p1 n1 c1 d1) (s2 : SV w p2 n2 c2 d2) (b1 : n1 ≤ 20000) (b2 : n2 ≤ 20000) (hp : 0 < n1 + n2) :
    Calls Tryz.prog 171 #[.slice p1 n1 c1, .slice p2 n2 c2, .int .i64 k] w (FU w (nthD (d1 ++ d2) (min k (n1 + n2 - 1)))) := by
  have S1 : Hid (SV w p1 n1 c1 d1) := s1
  have S2 : Hid (SV w p2 n2 c2 d2) := s2
  clear s1 s2
  obtain ⟨N, hN⟩ : ∃ N, n1 + n2 = N := ⟨_, rfl⟩
  have HN : Hid (n1 + n2 = N) := hN
  obtain ⟨j, hj⟩ : ∃ j, min k (N - 1) = j := ⟨_, rfl⟩
  have HJ : Hid _ := hj
  have hmin : min (k : Int) ((N : Int) - 1) = (j : Int) := by omega
  have C68 : Hid (∀ W, SV W p1 n1 c1 d1 → SV W p2 n2 c2 d2 → Calls Tryz.prog 195 #[.slice (some ⟨W.heap.size, 0, none⟩) 2 2] (W.alloc (.cells #[.slice p1 n1 c1, .slice p2 n2 c2] 47)) (RV W N (d1 ++ d2))) := fun W h1 h2 => hN ▸ cat68 h1 h2 b1 b2
  have jN : j < N := by omega
  have bN : N ≤ 40000 := by omega
  have pN : (0 : Int) < (N : Int) := by omega
  rw [hN, hj]
  clear hN hj
  go_enter Tryz.func171, Tryz.ntmps171
  go_wp2_with (first
    | (go_at_call 195; (with_reducible refine (C68.out _ S1.out S2.out).mono ?_); rintro e w1 ⟨p, c, rfl, HS, HU⟩)
    | (go_at_call 197; (with_reducible refine (nth70 (k := j) HS.out (by omega) jN (by omega)).mono ?_); rintro e w2 ⟨x, rfl, hx, HU2⟩))
  all_goals (go_ret; exact FU.mk hx.out (HU.out.trans HU2.out))
/-- The greater or the lesser of two means, the right one's first. -/
def pickD (way : Int) (r l : Option Nat) : Option Nat := if way = 1 ∧ gtF r l = true ∨ way = 2 ∧ ltF r l = true then r else l
def oneD (way : Int) (L R : Array Nat) : Option Nat := if L.size = 0 then meanD R else if R.size = 0 then meanD L else pickD way (meanD R) (meanD L)
theorem t61 (x y : Nat) (w : World) : Calls Tryz.prog 169 #[.float .f64 x, .float .f64 y] w fun e w' => e = .returned (.bool (gtF (ab x) (ab y))) ∧ w' = w := by
  go_enter Tryz.func169, Tryz.ntmps169
  go_wp2
  go_ret
  exact ⟨rfl, rfl⟩
theorem t62 (x y : Nat) (w : World) : Calls Tryz.prog 170 #[.float .f64 x, .float .f64 y] w fun e w' => e = .returned (.bool (ltF (ab x) (ab y))) ∧ w' = w := by
  go_enter Tryz.func170, Tryz.ntmps170
  go_wp2
  go_ret
  exact ⟨rfl, rfl⟩
/-- What tells which side's mean is rather taken. -/
def ratherV (way : Int) : Value := if way = 1 then .func (.func 169) #[] #[] else .func (.func 170) #[] #[]
set_option maxHeartbeats 1000000 in
theorem t69 {w : World} {way : Int} {b n1 n2 c1 c2 : Nat} {p1 p2 : Option Addr} {d1 d2 : Array Nat} (nth : Value) (hw : way = 1 ∨ way = 2) (hb : w.cell? ⟨b, 0, none⟩ = some (ratherV way)) (s1 : SV w p1 n1 c1 d1) (s2 : SV w p2 n2 c2 d2) (b1 : n1 ≤ 20000) (b2 : n2 ≤ 20000) (hp : 0 < n1 + n2) :
    Calls Tryz.prog 196 #[.slice p1 n1 c1, .slice p2 n2 c2, nth, .pointer (some ⟨b, 0, none⟩)] w (FU w (oneD way d1 d2)) := by
  have S1 : Hid (SV w p1 n1 c1 d1) := s1
  have S2 : Hid (SV w p2 n2 c2 d2) := s2
  clear s1 s2
  rcases Nat.eq_zero_or_pos n1 with rfl | q1
  · go_enter Tryz.func196, Tryz.ntmps196
    go_wp2_with (go_at_call 194; (with_reducible refine (t67 S2.out (by omega) (by omega)).mono ?_); rintro e w2 ⟨r, rfl, hr, HU2⟩)
    go_ret
    refine FU.mk ?_ HU2.out
    rw [hr.out]; unfold oneD; rw [if_pos S1.out.len]
  rcases Nat.eq_zero_or_pos n2 with rfl | q2
  · have e1 : ((n1 : Int) == 0) = false := by rw [beq_eq_false_iff_ne]; omega
    go_enter Tryz.func196, Tryz.ntmps196
    go_wp2_with (go_at_call 194; (with_reducible refine (t67 S1.out (by omega) (by omega)).mono ?_); rintro e w2 ⟨r, rfl, hr, HU2⟩)
    go_ret
    refine FU.mk ?_ HU2.out
    rw [hr.out]; unfold oneD; rw [if_neg (by rw [S1.out.len]; omega), if_pos S2.out.len]
  have e1 : ((n1 : Int) == 0) = false := by rw [beq_eq_false_iff_ne]; omega
  have e2 : ((n2 : Int) == 0) = false := by rw [beq_eq_false_iff_ne]; omega
  have eD : oneD way d1 d2 = pickD way (meanD d2) (meanD d1) := by unfold oneD; rw [if_neg (by rw [S1.out.len]; omega), if_neg (by rw [S2.out.len]; omega)]
  rw [eD]
  clear eD
  rcases hw with rfl | rfl
  · have hb' : w.cell? ⟨b, 0, none⟩ = some (.func (.func 169) #[] #[]) := hb
    clear hb
    go_enter Tryz.func196, Tryz.ntmps196
    go_wp2_with (first
      | (go_at_call 194; (with_reducible refine (t67 S1.out q1 (by omega)).mono ?_); rintro e w2 ⟨r, rfl, hr, HU2⟩; have S2b : Hid (SV w2 p2 n2 c2 d2) := S2.out.up HU2.out)
      | (go_at_call 194; (with_reducible refine (t67 S2b.out q2 (by omega)).mono ?_); rintro e w3 ⟨r3, rfl, hr3, HU3⟩; have hb3 : w3.cell? ⟨b, 0, none⟩ = some (.func (.func 169) #[] #[]) := cell_up hb' (HU2.out.trans HU3.out))
      | (go_at_call 169; (with_reducible refine (t61 _ _ _).mono ?_); rintro e w' ⟨rfl, hw⟩; subst w'))
    all_goals
      go_ret
      go_tidy
      refine FU.mk ?_ (HU2.out.trans HU3.out)
      rw [← hr.out, ← hr3.out]
      simp_all [pickD]
  · have hb' : w.cell? ⟨b, 0, none⟩ = some (.func (.func 170) #[] #[]) := hb
    clear hb
    go_enter Tryz.func196, Tryz.ntmps196
    go_wp2_with (first
      | (go_at_call 194; (with_reducible refine (t67 S1.out q1 (by omega)).mono ?_); rintro e w2 ⟨r, rfl, hr, HU2⟩; have S2b : Hid (SV w2 p2 n2 c2 d2) := S2.out.up HU2.out)
      | (go_at_call 194; (with_reducible refine (t67 S2b.out q2 (by omega)).mono ?_); rintro e w3 ⟨r3, rfl, hr3, HU3⟩; have hb3 : w3.cell? ⟨b, 0, none⟩ = some (.func (.func 170) #[] #[]) := cell_up hb' (HU2.out.trans HU3.out))
      | (go_at_call 170; (with_reducible refine (t62 _ _ _).mono ?_); rintro e w' ⟨rfl, hw⟩; subst w'))
    all_goals
      go_ret
      go_tidy
      refine FU.mk ?_ (HU2.out.trans HU3.out)
      rw [← hr.out, ← hr3.out]
      simp_all [pickD]
/-- The leveller of a way. -/
def Lev (w : World) (way : Int) (f : Value) : Prop :=
  (∃ b, (way = 1 ∨ way = 2) ∧ f = .func (.func 196) #[] #[.pointer (some ⟨b, 0, none⟩)] ∧ w.cell? ⟨b, 0, none⟩ = some (ratherV way)) ∨ (way = 3 ∧ f = .func (.func 171) #[] #[]) ∨ (way ≠ 1 ∧ way ≠ 2 ∧ way ≠ 3 ∧ f = .func (.func 167) #[] #[])
theorem Lev.up {w w' : World} {way : Int} {f : Value} (h : Lev w way f) (hu : Up w w') : Lev w' way f := by
  rcases h with ⟨b, h1, h2, h3⟩ | h | h
  · exact Or.inl ⟨b, h1, h2, cell_up h3 hu⟩
  · exact Or.inr (Or.inl h)
  · exact Or.inr (Or.inr h)
theorem t60 (k : FuncId) (w : World) : Calls Tryz.prog 168 #[.func (.func k) #[] #[]] w fun e w' => e = .returned (.func (.func 196) #[] #[.pointer (some ⟨w.heap.size, 0, none⟩)]) ∧ Hid (w'.cell? ⟨w.heap.size, 0, none⟩ = some (.func (.func k) #[] #[])) ∧ Hid (Up w w') := by
  go_enter Tryz.func168, Tryz.ntmps168
  go_wp2
  go_ret
  exact ⟨rfl, World.cell?_alloc_at _ _ _ _ rfl, Up.alloc _ _⟩
theorem t47 (w : World) : Calls Tryz.prog 142 #[] w fun e w' => ∃ g b1 b2, e = .returned (.slice (some ⟨g, 0, none⟩) 4 4) ∧ Hid (w'.cell? ⟨b1, 0, none⟩ = some (ratherV 1)) ∧ Hid (w'.cell? ⟨b2, 0, none⟩ = some (ratherV 2)) ∧ Hid (w'.cell? ⟨g, 0, none⟩ = some (.func (.func 167) #[] #[])) ∧ Hid (w'.cell? ⟨g, 1, none⟩ = some (.func (.func 196) #[] #[.pointer (some ⟨b1, 0, none⟩)])) ∧ Hid (w'.cell? ⟨g, 2, none⟩ = some (.func (.func 196) #[] #[.pointer (some ⟨b2, 0, none⟩)])) ∧ Hid (w'.cell? ⟨g, 3, none⟩ = some (.func (.func 171) #[] #[])) ∧ Hid (Up w w') := by
  go_enter Tryz.func142, Tryz.ntmps142
  go_wp2_with (first
    | (go_at_call 168; (with_reducible refine (t60 169 w).mono ?_); rintro e w1 ⟨rfl, H1, HU1⟩)
    | (go_at_call 168; (with_reducible refine (t60 170 w1).mono ?_); rintro e w2 ⟨rfl, H2, HU2⟩))
  go_ret
  exact ⟨w2.heap.size, w.heap.size, w1.heap.size, rfl, cell_up H1.out (HU2.out.trans (Up.alloc _ _)), cell_up H2.out (Up.alloc _ _), World.cell?_alloc_at _ _ _ _ rfl, World.cell?_alloc_at _ _ _ _ rfl, World.cell?_alloc_at _ _ _ _ rfl, World.cell?_alloc_at _ _ _ _ rfl, (HU1.out.trans HU2.out).trans (Up.alloc _ _)⟩
theorem t30 {way : Int} (h1 : -128 ≤ way) (h2 : way ≤ 127) (w : World) : Calls Tryz.prog 116 #[.int .i8 way] w fun e w' => ∃ f, e = .returned f ∧ Hid (Lev w' way f) ∧ Hid (Up w w') := by
  rcases (show way = 1 ∨ way = 2 ∨ way = 3 ∨ way = 0 ∨ way < 0 ∨ 4 ≤ way by omega) with rfl | rfl | rfl | rfl | hn | hn
  · go_enter Tryz.func116, Tryz.ntmps116
    go_wp2_with (go_at_call 142; (with_reducible refine (t47 w).mono ?_); rintro e w1 ⟨g, b1, b2, rfl, R1, R2, C0, C1, C2, C3, HU⟩; have c0 := C0.out; have c1 := C1.out; have c2 := C2.out; have c3 := C3.out; clear C0 C1 C2 C3)
    all_goals (go_ret; go_tidy)
    all_goals exact ⟨_, rfl, Or.inl ⟨b1, Or.inl rfl, rfl, R1.out⟩, HU⟩
  · go_enter Tryz.func116, Tryz.ntmps116
    go_wp2_with (go_at_call 142; (with_reducible refine (t47 w).mono ?_); rintro e w1 ⟨g, b1, b2, rfl, R1, R2, C0, C1, C2, C3, HU⟩; have c0 := C0.out; have c1 := C1.out; have c2 := C2.out; have c3 := C3.out; clear C0 C1 C2 C3)
    all_goals (go_ret; go_tidy)
    all_goals exact ⟨_, rfl, Or.inl ⟨b2, Or.inr rfl, rfl, R2.out⟩, HU⟩
  · go_enter Tryz.func116, Tryz.ntmps116
    go_wp2_with (go_at_call 142; (with_reducible refine (t47 w).mono ?_); rintro e w1 ⟨g, b1, b2, rfl, R1, R2, C0, C1, C2, C3, HU⟩; have c0 := C0.out; have c1 := C1.out; have c2 := C2.out; have c3 := C3.out; clear C0 C1 C2 C3)
    all_goals (go_ret; go_tidy)
    all_goals exact ⟨_, rfl, Or.inr (Or.inl ⟨rfl, rfl⟩), HU⟩
  · go_enter Tryz.func116, Tryz.ntmps116
    go_wp2_with (go_at_call 142; (with_reducible refine (t47 w).mono ?_); rintro e w1 ⟨g, b1, b2, rfl, R1, R2, C0, C1, C2, C3, HU⟩; have c0 := C0.out; have c1 := C1.out; have c2 := C2.out; have c3 := C3.out; clear C0 C1 C2 C3)
    all_goals (go_ret; go_tidy)
    all_goals exact ⟨_, rfl, Or.inr (Or.inr ⟨by omega, by omega, by omega, rfl⟩), HU⟩
  · go_enter Tryz.func116, Tryz.ntmps116
    go_wp2_with (go_at_call 142; (with_reducible refine (t47 w).mono ?_); rintro e w1 ⟨g, b1, b2, rfl, R1, R2, C0, C1, C2, C3, HU⟩; have c0 := C0.out; have c1 := C1.out; have c2 := C2.out; have c3 := C3.out; clear C0 C1 C2 C3)
    all_goals (go_ret; go_tidy)
    all_goals exact ⟨_, rfl, Or.inr (Or.inr ⟨by omega, by omega, by omega, rfl⟩), HU⟩
  · go_enter Tryz.func116, Tryz.ntmps116
    go_wp2_with (go_at_call 142; (with_reducible refine (t47 w).mono ?_); rintro e w1 ⟨g, b1, b2, rfl, R1, R2, C0, C1, C2, C3, HU⟩; have c0 := C0.out; have c1 := C1.out; have c2 := C2.out; have c3 := C3.out; clear C0 C1 C2 C3)
    all_goals (go_ret; go_tidy)
    all_goals exact ⟨_, rfl, Or.inr (Or.inr ⟨by omega, by omega, by omega, rfl⟩), HU⟩
end Go.Proofs.YtflngnnoibkkoaaGreat.Cf

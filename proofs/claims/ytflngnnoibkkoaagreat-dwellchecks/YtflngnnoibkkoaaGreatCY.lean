/- The walk of the merge in place. -/
import Derived.Test.YtflngnnoibkkoaaGreatCV
namespace Go.Proofs.YtflngnnoibkkoaaGreat.Cf
open Go.ChangeShapes Go.WideShapes Go.ChangeAt Go.RowKit Go.Fl Go.Sort
set_option maxRecDepth 200000
set_option maxHeartbeats 8000000
attribute [local go_sem] run_store_float call35 call46 run_neg fold_eq fold_ne fold_lt fold_gt abs_eq

theorem found_of {a m b lo hi s mid n p : Nat} {d : Array Nat} (h1 : SortedIn ltK a m d) (h2 : SortedIn ltK m b d) (ham : a < m) (hmb : m < b) (hb : b ≤ d.size) (hsz : d.size < 4611686018427387904) (hmid : mid = (a + b) / 2) (hn : n = mid + m) (hp : p = n - 1)
    (hlo : (lo = a ∧ hi = m ∧ m ≤ mid) ∨ (lo = n - b ∧ hi = mid ∧ mid < m)) (hs1 : lo ≤ s) (hs2 : s ≤ hi)
    (c1 : s = lo ∨ key d[s - 1]! ≤ key d[p - (s - 1)]!) (c2 : s = hi ∨ key d[p - s]! < key d[s]!) : Found a m b s mid (n - s) d := by
  refine ⟨h1, h2, by omega, by omega, by omega, by omega, by omega, by omega, ?_, ?_, hmid, by omega, hb, hsz⟩
  · by_cases hsa : s = lo
    · omega
    · rcases c1 with c | c
      · omega
      · rw [show p - (s - 1) = n - s by omega] at c
        exact Or.inr (Or.inr c)
  · by_cases hsa : s = hi
    · omega
    · rcases c2 with c | c
      · omega
      · rw [show p - s = n - s - 1 by omega] at c
        exact Or.inr (Or.inr c)

set_option maxHeartbeats 4000000 in
theorem t85mid (N : Nat) (IH : Sym N) (blk off cap a m b : Nat) (d : Array Nat) (w : World) (hH : Holds fe w blk off d) (hF : Fit d) (ham : a + 1 < m) (hmb : m + 1 < b) (hb : b ≤ d.size) (hsz : d.size < 4611686018427387904) (h1 : SortedIn ltK a m d) (h2 : SortedIn ltK m b d) (hn1 : b - a ≤ N + 1) :
    Calls Tryz.prog 251 #[.slice (some ⟨blk, off, none⟩) d.size cap, .int .i64 a, .int .i64 m, .int .i64 b, ord29] w (Merges w blk off a b d) := by
  have HI : Hid (Sym N) := IH
  have HH : Hid (Holds fe w blk off d) := hH
  have HST : Hid (w = (putRow fe w blk off d).drewN 0) := (putRow_self fe w blk off d hH).symm
  have HF : Hid (Fit d) := hF
  have H1 : Hid (SortedIn ltK a m d) := h1
  have H2 : Hid (SortedIn ltK m b d) := h2
  clear hF h1 h2 hH IH
  obtain ⟨mid, hmid⟩ : ∃ mid, mid = (a + b) / 2 := ⟨_, rfl⟩
  obtain ⟨n, hn⟩ : ∃ n, n = mid + m := ⟨_, rfl⟩
  obtain ⟨p, hp⟩ : ∃ p, p = n - 1 := ⟨_, rfl⟩
  have am : ¬ (m : Int) - (a : Int) = 1 := by omega
  have bm : ¬ (b : Int) - (m : Int) = 1 := by omega
  have am' : ((m : Int) - (a : Int) == 1) = false := by rw [beq_eq_false_iff_ne]; exact am
  have bm' : ((b : Int) - (m : Int) == 1) = false := by rw [beq_eq_false_iff_ne]; exact bm
  have emid : ((a : Int) + (b : Int)) / 2 = (mid : Int) := by omega
  have en : (mid : Int) + (m : Int) = (n : Int) := by omega
  have ep : (n : Int) - 1 = (p : Int) := by omega
  obtain ⟨lo, hi, hlo, elo⟩ : ∃ lo hi : Nat, ((lo = a ∧ hi = m ∧ m ≤ mid) ∨ (lo = n - b ∧ hi = mid ∧ mid < m)) ∧ (mid < m → (n : Int) - (b : Int) = (lo : Int)) := by
    by_cases h : mid < m
    · exact ⟨n - b, mid, Or.inr ⟨rfl, rfl, h⟩, fun _ => by omega⟩
    · exact ⟨a, m, Or.inl ⟨rfl, rfl, by omega⟩, fun h' => absurd h' h⟩
  have bmid : mid < 4611686018427387904 := by omega
  have bn : n < 9223372036854775808 := by omega
  have hmid1 : a < mid := by omega
  have hmid2 : mid < b := by omega
  have h3 : a ≤ lo := by omega
  have h4 : lo ≤ hi := by omega
  have h5 : hi ≤ m := by omega
  have h6 : n - lo ≤ b := by omega
  have h7 : m ≤ n - hi := by omega
  have h8 : hi ≤ n := by omega
  have HMID : Hid (mid = (a + b) / 2) := hmid
  have HN : Hid (n = mid + m) := hn
  have HP : Hid (p = n - 1) := hp
  have HLO : Hid _ := hlo
  have hp1 : p + 1 = n := by omega
  have HP1 : Hid (p + 1 = n) := hp1
  clear hmid hn hp hp1
  rcases hlo with ⟨elo', ehi', hc⟩ | ⟨elo', ehi', hc⟩
  all_goals
    have ELO : Hid _ := elo'
    have EHI : Hid _ := ehi'
    have elo2 := elo
    clear elo' ehi' elo
    first
      | replace elo2 := elo2 hc
      | (clear elo2; have hcf : decide (mid < m) = false := decide_eq_false (by omega))
    go_enter Tryz.func251, Tryz.ntmps251
    go_wp2
    go_loopw [20, 21] (fun vs vr wr => ∃ (s r k : Nat), vs = .int .i64 s ∧ vr = .int .i64 r ∧ lo ≤ s ∧ s ≤ r ∧ r ≤ hi ∧ wr = (putRow fe w blk off d).drewN k ∧ Hid (s = lo ∨ key d[s - 1]! ≤ key d[p - (s - 1)]!) ∧ Hid (r = hi ∨ key d[p - r]! < key d[r]!)) (fun vs vr _ => (intOf vr).toNat - (intOf vs).toNat)
    case atStart =>
      first
        | exact ⟨a, m, 0, rfl, rfl, by have := ELO.out; omega, by omega, by have := EHI.out; omega, HST.out, Or.inl ELO.out.symm, Or.inl EHI.out.symm⟩
        | exact ⟨lo, mid, 0, rfl, rfl, by omega, by have := EHI.out; omega, by have := EHI.out; omega, HST.out, Or.inl rfl, Or.inl EHI.out.symm⟩
    case round =>
      obtain ⟨s, r, k, rfl, rfl, hs1, hs2, hs3, hw, C1, C2⟩ := hrel
      rename World => W1
      have HW : Hid (W1 = (putRow fe w blk off d).drewN k) := hw
      clear hw
      by_cases hlt : s < r
      · obtain ⟨c, hc⟩ : ∃ c, (s + r) / 2 = c := ⟨_, rfl⟩
        have ec : ((s : Int) + (r : Int)) / 2 = (c : Int) := by omega
        have hc1 : s ≤ c := by omega
        have hc2 : c < r := by omega
        clear hc
        obtain ⟨q, hq⟩ : ∃ q, q = p - c := ⟨_, rfl⟩
        have hpc : q + c = p := by have := HP1.out; omega
        have eq : (p : Int) - (c : Int) = (q : Int) := by omega
        have hqb : q < d.size := by have := HP1.out; omega
        have hcb : c < d.size := by omega
        have HQ : Hid (q = p - c) := hq
        clear hq hpc
        obtain ⟨x, hx⟩ : ∃ x, d[c]! = x := ⟨_, rfl⟩
        obtain ⟨y, hy⟩ : ∃ y, d[q]! = y := ⟨_, rfl⟩
        obtain ⟨cx, fx⟩ := fam HW.out HH.out rfl hcb hx
        obtain ⟨cy, fy⟩ := fam HW.out HH.out rfl hqb hy
        have bx := fit_at HF.out rfl hcb hx
        have byy := fit_at HF.out rfl hqb hy
        have HX : Hid _ := hx
        have HY : Hid _ := hy
        clear hx hy fx fy
        have hcz : (c : Int) < (d.size : Int) := by omega
        have hqz : (q : Int) < (d.size : Int) := by omega
        by_cases hlv : cmpK y x < 0
        · go_wp2_with fail
          go_quiet (first | (go_at_call 216; refine Calls.quiet_of (cmp29 byy bx _)))
          go_wp2
          go_roundw
          case rel =>
            refine ⟨s, c, k + nq, rfl, rfl, by omega, by omega, by omega, by rw [HW.out, World.drewN_drewN], C1, Or.inr ?_⟩
            rw [← HQ.out, HX.out, HY.out]
            exact ltK_true.1 ((cmpK_neg y x).1 hlv)
          case measure => simp [intOf]; omega
        · have hlv2 : (0 : Int) ≤ cmpK y x := by omega
          have hlv3 : decide (cmpK y x < 0) = false := decide_eq_false hlv
          go_wp2_with fail
          go_quiet (first | (go_at_call 216; refine Calls.quiet_of (cmp29 byy bx _)))
          go_wp2
          go_roundw
          case rel =>
            refine ⟨c + 1, r, k + nq, by go_num, rfl, by omega, by omega, by omega, by rw [HW.out, World.drewN_drewN], Or.inr ?_, C2⟩
            rw [Nat.add_sub_cancel, ← HQ.out, HX.out, HY.out]
            exact ltK_false.1 (Bool.eq_false_iff.2 fun h => by have := (cmpK_neg y x).2 h; omega)
          case measure => simp [intOf]; omega
      · obtain rfl : s = r := by omega
        obtain ⟨e, he⟩ : ∃ e, e = n - s := ⟨_, rfl⟩
        have een : (n : Int) - (s : Int) = (e : Int) := by omega
        have F : Found a m b s mid e d := by
          rw [he]
          exact found_of H1.out H2.out (by omega) (by omega) hb hsz HMID.out HN.out HP.out HLO.out hs1 hs3 C1.out C2.out
        have FF : Hid _ := F
        have S0 : Hid (St0 w blk off d W1) := ⟨k, HW.out⟩
        have fsm : s ≤ m := F.hsm
        have fme : m ≤ e := F.hme
        have fsd : s ≤ mid := F.hsd
        clear F he HW
        go_wp2_with (first
          | (go_at_call 256; (with_reducible refine (st1_turn HH S0 FF (by omega)).mono ?_); rintro e w' ⟨rfl, S1⟩)
          | (go_at_call 251; (with_reducible refine (st2_call HI HH HF (by first | exact S1 | exact st1_none S0.out FF.out (by omega)) FF (by omega) hn1).mono ?_); rintro e w' ⟨rfl, S2⟩)
          | (go_at_call 251; (with_reducible refine (st3_call HI HH HF (by first | exact S2 | exact st2_none S1.out (by omega) | exact st2_none (st1_none S0.out FF.out (by omega)).out (by omega)) FF (by omega) hn1 hmid1).mono ?_); rintro e w' ⟨rfl, S3⟩))
        all_goals
          go_end0
          first
            | exact ⟨rfl, S3.out⟩
            | exact ⟨rfl, st3_none S2.out FF.out (by omega)⟩
            | exact ⟨rfl, st3_none (st2_none S1.out (by omega)).out FF.out (by omega)⟩
            | exact ⟨rfl, st3_none (st2_none (st1_none S0.out FF.out (by omega)).out (by omega)).out FF.out (by omega)⟩

theorem sym_all : ∀ n, Sym n
  | 0 => fun _ _ _ _ _ _ _ _ _ _ _ _ _ _ _ _ _ _ _ => by omega
  | n + 1 => by
    intro blk off cap a m b N d w hN hH hF ham hmb hb hsz h1 h2 hn
    subst hN
    by_cases c1 : m = a + 1
    · exact t85up blk off cap a m b d w hH hF c1 hb hmb hsz h2
    · by_cases c2 : b = m + 1
      · exact t85down blk off cap a m b d w hH hF (by omega) c2 hb hsz h1
      · exact t85mid n (sym_all n) blk off cap a m b d w hH hF (by omega) (by omega) hb hsz h1 h2 hn
theorem t85 (blk off cap a m b N : Nat) (d : Array Nat) (w : World) (hN : d.size = N) (hH : Holds fe w blk off d) (hF : Fit d) (ham : a < m) (hmb : m < b) (hb : b ≤ N) (hsz : N < 4611686018427387904) (h1 : SortedIn ltK a m d) (h2 : SortedIn ltK m b d) :
    Calls Tryz.prog 251 #[.slice (some ⟨blk, off, none⟩) N cap, .int .i64 a, .int .i64 m, .int .i64 b, ord29] w (Merges w blk off a b d) :=
  sym_all (b - a) blk off cap a m b N d w hN hH hF ham hmb hb hsz h1 h2 (Nat.le_refl _)
end Go.Proofs.YtflngnnoibkkoaaGreat.Cf

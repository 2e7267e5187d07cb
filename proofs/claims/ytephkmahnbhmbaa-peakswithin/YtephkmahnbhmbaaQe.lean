/- slices.CompactFunc of spots, by their cells. -/
import Derived.Test.YtephkmahnbhmbaaQd
namespace Go.Proofs.Ytephkmahnbhmbaa
open Go.ChangeShapes Go.WideShapes Go.ChangeAt Go.RowKit Go.Fl Go.Sort Go.Shelf Go.Lib
attribute [local go_sem] run_store_float call52 run_neg fold_eq fold_ne fold_lt fold_gt abs_eq eqg57

def sameS (s t : Spt) : Bool := sameC s.1 s.2.1 t.1 t.2.1
/-- The first of each run of spots of one cell, of the first n. -/
def cptN (d : Array Spt) : Nat → List Spt
  | 0 => []
  | i + 1 => cptN d i ++ (if i = 0 ∨ sameS d[i]! d[i - 1]! = false then [d[i]!] else [])
theorem eg60 (args : Array Value) (w : World) : (callFunc 60 args).run Try.prog w = .ok (.enter 60 args) w := enters Try.func60 (by kernel_rfl) (by kernel_rfl) _ _
theorem six6_up {w w' : World} {g k j : Nat} {a b c d e f : Value} (h : w.cell? ⟨g, k, none⟩ = some a ∧ w.cell? ⟨g, k + 1, none⟩ = some b ∧ w.cell? ⟨g, k + 2, none⟩ = some c ∧ w.cell? ⟨g, j, none⟩ = some d ∧ w.cell? ⟨g, j + 1, none⟩ = some e ∧ w.cell? ⟨g, j + 2, none⟩ = some f) (hu : Up w w') :
    w'.cell? ⟨g, k, none⟩ = some a ∧ w'.cell? ⟨g, k + 1, none⟩ = some b ∧ w'.cell? ⟨g, k + 2, none⟩ = some c ∧ w'.cell? ⟨g, j, none⟩ = some d ∧ w'.cell? ⟨g, j + 1, none⟩ = some e ∧ w'.cell? ⟨g, j + 2, none⟩ = some f :=
  ⟨cell_up h.1 hu, cell_up h.2.1 hu, cell_up h.2.2.1 hu, cell_up h.2.2.2.1 hu, cell_up h.2.2.2.2.1 hu, cell_up h.2.2.2.2.2 hu⟩
theorem ext_snoc {d : Array Spt} {k : Nat} (h : k < d.size) : (d.extract 0 k).toList ++ [d[k]!] = (d.extract 0 (k + 1)).toList := by
  rw [getElem!_pos d k h]
  simp [Array.toList_extract, List.take_add_one, h]
/-- How far the second loop has come: kk are kept, k + k2 looked at. -/
structure CI (w : World) (g cap n k : Nat) (d : Array Spt) (kk k2 : Nat) (dk : Array Spt) (wr : World) : Prop where
  own : OwnR wr g cap dk
  sz : dk.size = n
  le : kk ≤ k + k2 - 1
  cpt : cptN d (k + k2) = (dk.extract 0 kk).toList
  rest : ∀ i, k + k2 - 1 ≤ i → i < n → dk[i]! = d[i]!
  kp : Kp (fun b => b ≠ g) w wr
theorem set_ne {d : Array Spt} {k i : Nat} (s : Spt) (h : i ≠ k) : (d.set! k s)[i]! = d[i]! := by
  show (d.setIfInBounds k s)[i]! = _
  rcases Nat.lt_or_ge i d.size with hi | hi
  · rw [getElem!_pos _ i (by simpa using hi), getElem!_pos d i hi, Array.getElem_setIfInBounds_ne (by simpa using hi) (Ne.symm h)]
  · rw [getElem!_neg _ i (by simpa using hi), getElem!_neg d i (by omega)]
theorem set_eq {d : Array Spt} {k : Nat} (s : Spt) (h : k < d.size) : (d.set! k s)[k]! = s := by
  show (d.setIfInBounds k s)[k]! = _
  rw [getElem!_pos _ k (by simpa using h)]; simp
theorem ext_set {d : Array Spt} {k : Nat} (s : Spt) (h : k < d.size) : ((d.set! k s).extract 0 k).toList = (d.extract 0 k).toList := by
  congr 1
  apply Array.ext
  · simp
  · intro i h1 h2
    have hi : i < k := by simp at h2; omega
    simp only [Array.getElem_extract, Nat.zero_add]
    have := set_ne (d := d) s (show i ≠ k by omega)
    rw [getElem!_pos _ i (by show i < (d.setIfInBounds k s).size; simp; omega), getElem!_pos d i (by omega)] at this
    exact this
theorem CI.put {w : World} {g cap n k : Nat} {d : Array Spt} {kk k2 : Nat} {dk : Array Spt} {wr w1 : World} {s : Spt} (h : CI w g cap n k d kk k2 dk wr) (hu : Up wr w1) (h1 : 1 ≤ k) (h2 : 1 ≤ k2) (hk : k + k2 < n) (hkk : kk < n) (hs : dk[k + k2]! = s) (hn : sameS s dk[k + k2 - 1]! = false) :
    CI w g cap n k d (kk + 1) (k2 + 1) (dk.set! kk s) (w1.setCells g (kk * 3) (spC s)) := by
  have hz := h.sz
  have hle := h.le
  have e1 : d[k + k2]! = s := by rw [← h.rest (k + k2) (by omega) hk, hs]
  have e2 : dk[k + k2 - 1]! = d[k + k2 - 1]! := h.rest _ (by omega) (by omega)
  refine ⟨(h.own.up hu).put (by omega) s, by simpa using hz, by omega, ?_, fun i hi hin => ?_, (h.kp.trans (Kp.of_up hu)).trans (kp_setCells (by simp) _ _ _)⟩
  · rw [show k + (k2 + 1) = k + k2 + 1 by omega, cptN, h.cpt, e1, ← e2, if_pos (Or.inr hn), ← ext_snoc (by show kk < (dk.setIfInBounds kk s).size; simp; omega), ext_set s (by omega), set_eq s (by omega)]
  · rw [set_ne s (by omega)]
    exact h.rest i (by omega) hin
theorem CI.skip {w : World} {g cap n k : Nat} {d : Array Spt} {kk k2 : Nat} {dk : Array Spt} {wr w1 : World} {s : Spt} (h : CI w g cap n k d kk k2 dk wr) (hu : Up wr w1) (h1 : 1 ≤ k) (h2 : 1 ≤ k2) (hk : k + k2 < n) (hs : dk[k + k2]! = s) (hn : sameS s dk[k + k2 - 1]! = true) :
    CI w g cap n k d kk (k2 + 1) dk w1 := by
  have hle := h.le
  have e1 : d[k + k2]! = s := by rw [← h.rest (k + k2) (by omega) hk, hs]
  have e2 : dk[k + k2 - 1]! = d[k + k2 - 1]! := h.rest _ (by omega) (by omega)
  refine ⟨h.own.up hu, h.sz, by omega, ?_, fun i hi hin => h.rest i (by omega) hin, h.kp.trans (Kp.of_up hu)⟩
  rw [show k + (k2 + 1) = k + k2 + 1 by omega, cptN, h.cpt, e1, ← e2, hn, if_neg (by simp; omega), List.append_nil]
/-- What the call leaves. -/
def CP (w : World) (g cap : Nat) (L : List Spt) (e : Ending) (w' : World) : Prop := ∃ m c, e = .returned (.slice (some ⟨g, 0, none⟩) m c) ∧ Hid (m = L.length ∧ c = cap ∧ OwnR w' g cap L.toArray) ∧ Hid (Kp (fun k => k ≠ g) w w')
set_option maxRecDepth 20000 in
set_option maxHeartbeats 4000000 in
theorem t59 {w : World} {g cap n : Nat} {d : Array Spt} (h : OwnR w g cap d) (hd : d.size = n) (hn : 0 < n) (hsz : n < 4611686018427387904) : Calls Try.prog 59 #[.slice (some ⟨g, 0, none⟩) n cap, .func (.func 60) #[] #[]] w (CP w g cap (cptN d n)) := by
  have H : Hid (OwnR w g cap d) := h
  have HD : Hid (d.size = n) := hd
  have hle := h.le
  rw [hd] at hle
  clear h hd
  by_cases h1 : n = 1
  · subst h1
    go_enter Try.func59, Try.ntmps59
    go_wp2
    go_ret
    have e : cptN d 1 = (d.extract 0 1).toList := by
      rw [← ext_snoc (by rw [HD.out]; omega)]
      simp [cptN]
    rw [e]
    refine ⟨1, cap, rfl, ⟨?_, rfl, ?_⟩, Kp.refl _ _⟩
    · have := HD.out
      simp; omega
    · exact H.out.take 1 (by rw [HD.out]; omega)
  · have b2 : ¬ (n : Int) < 2 := by omega
    go_enter Try.func59, Try.ntmps59
    go_wp2
    go_loopw [5, 6, 7] (fun vk _ _ wr => ∃ k : Nat, 1 ≤ k ∧ k ≤ n ∧ vk = .int .i64 k ∧ Hid (Gr w wr) ∧ Hid (cptN d k = (d.extract 0 k).toList)) (fun vk _ _ _ => n - (intOf vk).toNat)
    case atStart => exact ⟨1, by omega, by omega, rfl, Gr.refl _, by
      show _ = _
      rw [← ext_snoc (by rw [HD.out]; omega)]
      simp [cptN]⟩
    case round =>
      obtain ⟨k, hk1, hkn, rfl, HG, HC⟩ := hrel
      rename World => wr
      by_cases hlt : k < n
      · obtain ⟨j, hj⟩ : ∃ j, k - 1 = j := ⟨_, rfl⟩
        have HJ : Hid (k - 1 = j) := hj
        obtain ⟨s, hs⟩ : ∃ s, d[k]! = s := ⟨_, rfl⟩
        obtain ⟨u, hu⟩ : ∃ u, d[j]! = u := ⟨_, rfl⟩
        obtain ⟨⟨q0, q1, q2⟩, qf⟩ := (H.out.up HG.out.up).cell (i := k) (by rw [HD.out]; exact hlt)
        obtain ⟨⟨r0, r1, r2⟩, rf⟩ := (H.out.up HG.out.up).cell (i := j) (by rw [HD.out]; omega)
        rw [hs] at q0 q1 q2
        rw [hu] at r0 r1 r2
        obtain ⟨s1, s2, s3⟩ := s
        obtain ⟨u1, u2, u3⟩ := u
        have HSU : Hid (d[k]! = (s1, s2, s3) ∧ d[j]! = (u1, u2, u3)) := ⟨hs, hu⟩
        simp only at q0 q1 q2 r0 r1 r2
        have z1 : (k : Int) < (n : Int) := by omega
        have z2 : (k : Int) - 1 = (j : Int) := by omega
        have z3 : (j : Int) < (n : Int) := by omega
        have z4 : IntKind.i64.wrap (j : Int) = (j : Int) := by rw [IntKind.wrap_i64]; omega
        obtain ⟨sb, hsb⟩ : ∃ sb, sameC s1 s2 u1 u2 = sb := ⟨_, rfl⟩
        have HSB : Hid (sameC s1 s2 u1 u2 = sb) := hsb
        have C60 : Hid (∀ W, Calls Try.prog 60 #[.agg #[.int .i64 s1, .int .i64 s2, .float .f64 s3], .agg #[.int .i64 u1, .int .i64 u2, .float .f64 u3]] W (VU W (.bool sb))) := fun W => hsb ▸ t60 s1 s2 s3 u1 u2 u3 W
        clear hs hu hsb hj qf rf
        cases sb
        · go_wp2_with fail
          go_region_held3 (fun w' => w'.cell? ⟨g, k * 3, none⟩ = some (.int .i64 s1) ∧ w'.cell? ⟨g, k * 3 + 1, none⟩ = some (.int .i64 s2) ∧ w'.cell? ⟨g, k * 3 + 2, none⟩ = some (.float .f64 s3) ∧ w'.cell? ⟨g, j * 3, none⟩ = some (.int .i64 u1) ∧ w'.cell? ⟨g, j * 3 + 1, none⟩ = some (.int .i64 u2) ∧ w'.cell? ⟨g, j * 3 + 2, none⟩ = some (.float .f64 u3)) (first | exact ⟨q0, q1, q2, r0, r1, r2⟩ | exact six6_up (by assumption) HU1.out.up | go_keep) (first
            | (go_at_call 60; (with_reducible refine (C60.out _).mono ?_); rintro e w1 ⟨rfl, HU1⟩))
          go_wp2
          go_roundw
          case rel => exact ⟨k + 1, by omega, by omega, by go_num, (HG.out.trans (Gr.drewN _ 1)).trans HU1.out, by
            show _ = _
            have e : sameS d[k]! d[k - 1]! = false := by rw [HJ.out, HSU.out.1, HSU.out.2]; exact HSB.out
            rw [cptN, HC.out, if_pos (Or.inr e)]
            exact ext_snoc (by rw [HD.out]; exact hlt)⟩
          case measure => simp [intOf]; omega
        · have hcK : ¬ cap = k := by omega
          have hcK2 : ¬ cap ≤ k := by omega
          go_wp2_with fail
          go_region_held3 (fun w' => w'.cell? ⟨g, k * 3, none⟩ = some (.int .i64 s1) ∧ w'.cell? ⟨g, k * 3 + 1, none⟩ = some (.int .i64 s2) ∧ w'.cell? ⟨g, k * 3 + 2, none⟩ = some (.float .f64 s3) ∧ w'.cell? ⟨g, j * 3, none⟩ = some (.int .i64 u1) ∧ w'.cell? ⟨g, j * 3 + 1, none⟩ = some (.int .i64 u2) ∧ w'.cell? ⟨g, j * 3 + 2, none⟩ = some (.float .f64 u3)) (first | exact ⟨q0, q1, q2, r0, r1, r2⟩ | exact six6_up (by assumption) HU1.out.up | go_keep) (first
            | (go_at_call 60; (with_reducible refine (C60.out _).mono ?_); rintro e w1 ⟨rfl, HU1⟩))
          go_wp2
          have HR0 : Hid (CI w g cap n k d k 1 d w1) := by
            have hg2 : Gr w w1 := (HG.out.trans (Gr.drewN _ 1)).trans HU1.out
            refine ⟨H.out.up hg2.up, HD.out, by omega, ?_, fun i _ _ => rfl, Kp.of_up hg2.up⟩
            have e : sameS d[k]! d[k - 1]! = true := by rw [HJ.out, HSU.out.1, HSU.out.2]; exact HSB.out
            rw [cptN, HC.out, e, if_neg (by simp; omega), List.append_nil]
          generalize w1 = W1 at *
          clear HU1 HG HC HSU HSB C60 q0 q1 q2 r0 r1 r2 HJ z1 z2 z3 z4
          obtain ⟨m2, hm2⟩ : ∃ m, n - k = m := ⟨_, rfl⟩
          rw [hm2]
          have HM2 : Hid (n - k = m2) := hm2
          have hm3 : m2 + k = n := by omega
          clear hm2
          go_loopw [5, 7] (fun vk vk2 wr => ∃ (kk k2 : Nat) (dk : Array Spt), vk = .int .i64 kk ∧ vk2 = .int .i64 k2 ∧ 1 ≤ k2 ∧ k2 ≤ m2 ∧ kk < n ∧ Hid (CI w g cap n k d kk k2 dk wr)) (fun _ vk2 _ => m2 - (intOf vk2).toNat)
          case atStart => exact ⟨k, 1, d, rfl, rfl, by omega, by omega, hlt, HR0⟩
          case round =>
            clear HR0
            obtain ⟨kk, k2, dk, rfl, rfl, hk2, hkm, hkk, HI⟩ := hrel
            rename World => wr
            by_cases hl2 : k2 < m2
            · obtain ⟨j, hj⟩ : ∃ j, k2 - 1 = j := ⟨_, rfl⟩
              have HJ : Hid (k2 - 1 = j) := hj
              obtain ⟨s, hs⟩ : ∃ s, dk[k + k2]! = s := ⟨_, rfl⟩
              obtain ⟨u, hu⟩ : ∃ u, dk[k + j]! = u := ⟨_, rfl⟩
              obtain ⟨⟨q0, q1, q2⟩, qf⟩ := HI.out.own.cell (i := k + k2) (by rw [HI.out.sz]; omega)
              obtain ⟨⟨r0, r1, r2⟩, _⟩ := HI.out.own.cell (i := k + j) (by rw [HI.out.sz]; omega)
              obtain ⟨⟨p0, p1, p2⟩, _⟩ := HI.out.own.cell (i := kk) (by rw [HI.out.sz]; omega)
              rw [hs, show (k + k2) * 3 = k * 3 + k2 * 3 by omega] at q0 q1 q2
              rw [hu, show (k + j) * 3 = k * 3 + j * 3 by omega] at r0 r1 r2
              obtain ⟨s1, s2, s3⟩ := s
              obtain ⟨u1, u2, u3⟩ := u
              have HSU : Hid (dk[k + k2]! = (s1, s2, s3) ∧ dk[k + j]! = (u1, u2, u3)) := ⟨hs, hu⟩
              simp only at q0 q1 q2 r0 r1 r2
              have z1 : (k2 : Int) < (m2 : Int) := by omega
              have z2 : (k2 : Int) - 1 = (j : Int) := by omega
              have z3 : (j : Int) < (m2 : Int) := by omega
              have z4 : IntKind.i64.wrap (j : Int) = (j : Int) := by rw [IntKind.wrap_i64]; omega
              have z5 : (kk : Int) < (n : Int) := by omega
              obtain ⟨sb, hsb⟩ : ∃ sb, sameC s1 s2 u1 u2 = sb := ⟨_, rfl⟩
              have HSB : Hid (sameC s1 s2 u1 u2 = sb) := hsb
              have C60 : Hid (∀ W, Calls Try.prog 60 #[.agg #[.int .i64 s1, .int .i64 s2, .float .f64 s3], .agg #[.int .i64 u1, .int .i64 u2, .float .f64 u3]] W (VU W (.bool sb))) := fun W => hsb ▸ t60 s1 s2 s3 u1 u2 u3 W
              clear hs hu hsb hj
              have f0 := qf (kk * 3)
              have f1 := qf (kk * 3 + 1)
              have f2 := qf (kk * 3 + 2)
              clear qf
              cases sb
              · have Q : Hid (∀ W, Up wr W → (W.cell? ⟨g, kk * 3, none⟩ = some (.int .i64 (dk[kk]!).1) ∧ W.cell? ⟨g, kk * 3 + 1, none⟩ = some (.int .i64 (dk[kk]!).2.1) ∧ W.cell? ⟨g, kk * 3 + 2, none⟩ = some (.float .f64 (dk[kk]!).2.2)) ∧ W.frozen? ⟨g, kk * 3, none⟩ = false ∧ W.frozen? ⟨g, kk * 3 + 1, none⟩ = false ∧ W.frozen? ⟨g, kk * 3 + 2, none⟩ = false) := fun W hu => ⟨⟨cell_up p0 hu, cell_up p1 hu, cell_up p2 hu⟩, frozen_up f0 hu (lt_of_cell p0), frozen_up f1 hu (lt_of_cell p0), frozen_up f2 hu (lt_of_cell p0)⟩
                have L6 : Hid (∀ W, Up wr W → W.cell? ⟨g, k * 3 + k2 * 3, none⟩ = some (.int .i64 s1) ∧ W.cell? ⟨g, k * 3 + k2 * 3 + 1, none⟩ = some (.int .i64 s2) ∧ W.cell? ⟨g, k * 3 + k2 * 3 + 2, none⟩ = some (.float .f64 s3)) := fun W hu => ⟨cell_up q0 hu, cell_up q1 hu, cell_up q2 hu⟩
                clear p0 p1 p2 f0 f1 f2
                go_wp2_with fail
                go_region_held3 (fun w' => w'.cell? ⟨g, k * 3 + k2 * 3, none⟩ = some (.int .i64 s1) ∧ w'.cell? ⟨g, k * 3 + k2 * 3 + 1, none⟩ = some (.int .i64 s2) ∧ w'.cell? ⟨g, k * 3 + k2 * 3 + 2, none⟩ = some (.float .f64 s3) ∧ w'.cell? ⟨g, k * 3 + j * 3, none⟩ = some (.int .i64 u1) ∧ w'.cell? ⟨g, k * 3 + j * 3 + 1, none⟩ = some (.int .i64 u2) ∧ w'.cell? ⟨g, k * 3 + j * 3 + 2, none⟩ = some (.float .f64 u3)) (first | exact ⟨q0, q1, q2, r0, r1, r2⟩ | exact six6_up (by assumption) HU1.out.up | go_keep) (first
                  | (go_at_call 60; (with_reducible refine (C60.out _).mono ?_); rintro e w1 ⟨rfl, HU1⟩))
                have hup : Up wr w1 := (Up.drewN _ 1).trans HU1.out.up
                obtain ⟨⟨p0, p1, p2⟩, f0, f1, f2⟩ := Q.out w1 hup
                obtain ⟨v0, v1, v2⟩ := L6.out w1 hup
                have HUP : Hid (Up wr w1) := hup
                clear hup q0 q1 q2 r0 r1 r2 Q L6 C60
                go_wp2
                go_roundw
                case rel => exact ⟨kk + 1, k2 + 1, dk.set! kk (s1, s2, s3), by go_num, by go_num, by omega, by omega, by have := HI.out.le; omega, HI.out.put HUP.out hk1 hk2 (by omega) hkk HSU.out.1 (by rw [show k + k2 - 1 = k + j by have := HJ.out; omega, HSU.out.2]; exact HSB.out)⟩
                case measure => simp [intOf]; omega
              · clear p0 p1 p2 f0 f1 f2
                go_wp2_with fail
                go_region_held3 (fun w' => w'.cell? ⟨g, k * 3 + k2 * 3, none⟩ = some (.int .i64 s1) ∧ w'.cell? ⟨g, k * 3 + k2 * 3 + 1, none⟩ = some (.int .i64 s2) ∧ w'.cell? ⟨g, k * 3 + k2 * 3 + 2, none⟩ = some (.float .f64 s3) ∧ w'.cell? ⟨g, k * 3 + j * 3, none⟩ = some (.int .i64 u1) ∧ w'.cell? ⟨g, k * 3 + j * 3 + 1, none⟩ = some (.int .i64 u2) ∧ w'.cell? ⟨g, k * 3 + j * 3 + 2, none⟩ = some (.float .f64 u3)) (first | exact ⟨q0, q1, q2, r0, r1, r2⟩ | exact six6_up (by assumption) HU1.out.up | go_keep) (first
                  | (go_at_call 60; (with_reducible refine (C60.out _).mono ?_); rintro e w1 ⟨rfl, HU1⟩))
                go_wp2
                go_roundw
                case rel => exact ⟨kk, k2 + 1, dk, rfl, by go_num, by omega, by omega, hkk, HI.out.skip ((Up.drewN _ 1).trans HU1.out.up) hk1 hk2 (by omega) HSU.out.1 (by rw [show k + k2 - 1 = k + j by have := HJ.out; omega, HSU.out.2]; exact HSB.out)⟩
                case measure => simp [intOf]; omega
            · obtain rfl : k2 = m2 := by omega
              have hck : ¬ cap = kk := by omega
              have hck2 : ¬ cap ≤ kk := by omega
              have hcl := fun ty => run_clear3 HI.out.own HI.out.sz hkk ty (cap - kk)
              have z5 : (kk : Int) < (n : Int) := by omega
              go_wp2
              go_ret
              refine ⟨kk, cap, rfl, ⟨?_, rfl, ?_⟩, HI.out.kp.trans (kp_setCells (by simp) _ _ _)⟩
              · have e := congrArg List.length HI.out.cpt
                rw [show k + k2 = n by omega] at e
                rw [e]
                have := HI.out.sz
                simp; omega
              · have e := HI.out.cpt
                rw [show k + k2 = n by omega] at e
                rw [e]
                exact HI.out.own.cut (by rw [HI.out.sz]; omega) _
      · obtain rfl : k = n := by omega
        go_wp2
        go_ret
        refine ⟨k, cap, rfl, ⟨?_, rfl, ?_⟩, Kp.of_up HG.out.up⟩
        · rw [HC.out]
          have := HD.out
          simp; omega
        · rw [HC.out]
          exact (H.out.up HG.out.up).take k (by rw [HD.out]; omega)
end Go.Proofs.Ytephkmahnbhmbaa

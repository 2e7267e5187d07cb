/- Equations laid beside their right sides: joined. -/
import Derived.Test.YthpoipajfkfdeabCf
import Derived.Laws.CopyOwn
namespace Go.Proofs.Ythpoipajfkfdeab
open Go.ChangeShapes Go.WideShapes Go.ChangeAt Go.RowKit Go.Fl Ieee
attribute [local go_sem] run_store_float run_store_c call43 call17 run_neg fold_eq fold_ne fold_lt fold_gt abs_eq

theorem CRow.heap {b g n : Nat} {w : World} {d : List (Nat × Nat)} (h : CRow b w (.slice (some ⟨g, 0, none⟩) n n) d) : w.heap[g]? = some (.cells (d.map ce).toArray 26 (0, 0)) := by
  have hl := h.len
  obtain ⟨h1, h2⟩ := h
  rcases h2 with ⟨h2, _⟩ | ⟨g0, cap0, cur, e, k2, k3, k4, k5, k6, k7⟩
  · cases h2
  · simp only [Value.slice.injEq, Option.some.injEq, Addr.mk.injEq] at e
    obtain ⟨⟨rfl, _⟩, e2, rfl⟩ := e
    rw [k3]
    congr 2
    apply Array.ext'
    rw [← k7, List.take_of_length_le]
    simp; omega
theorem CRow.of_heap {b g n : Nat} {w : World} {d : List (Nat × Nat)} (hl : d.length = n) (hb : b ≤ g) (hn : n ≤ 1000000) (h : w.heap[g]? = some (.cells (d.map ce).toArray 26 (0, 0))) : CRow b w (.slice (some ⟨g, 0, none⟩) n n) d := by
  subst hl
  refine ⟨by simp, Or.inr ⟨g, _, _, rfl, hb, h, Nat.le_refl _, by unfold maxLen; omega, by simp, ?_⟩⟩
  rw [List.take_of_length_le (by simp)]
/-- What a slice's stretch holds. -/
def cut (f : Nat → Nat × Nat) (o k : Nat) : List (Nat × Nat) := (List.range k).map fun i => f (o + i)
theorem cut_len (f : Nat → Nat × Nat) (o k : Nat) : (cut f o k).length = k := by simp [cut]
theorem sz26 : (Try.prog.info? 26).map (·.size) = some 1 := by kernel_rfl
theorem ce_one {l : List (Nat × Nat)} : ∀ v ∈ l.map ce, v.oneCell' = true := by
  intro v hv
  obtain ⟨p, _, rfl⟩ := List.mem_map.1 hv
  rfl
theorem src_ok {w : World} {lg lo n o k : Nat} {f : Nat → Nat × Nat} (hR : RD w lg lo n f) (hk : o + k ≤ n) : ∀ j v, ((cut f o k).map ce)[j]? = some v → w.cell? ((⟨lg, lo + o, none⟩ : Addr).add j) = some v := by
  intro j v hv
  unfold cut at hv
  have hj : j < k := by
    have := List.getElem?_eq_some_iff.1 hv
    obtain ⟨h, _⟩ := this
    simpa using h
  rw [List.getElem?_map, List.getElem?_map, List.getElem?_range hj] at hv
  simp only [Option.map_some, Option.some.injEq] at hv
  rw [← hv]
  have := hR (o + j) (by omega)
  rw [← Nat.add_assoc] at this
  by_cases e : j = 0
  · subst e; exact this
  · simpa [Addr.add, e] using this
theorem upon_copy {o : Oper} {a : Act} {next : Act → World → Prop} {Q : Exit → Act → World → Prop} {w : World} {F : Value → World → Result Next} {g off dLen dCap lg lo' lo n s sLen sCap : Nat} {cur : List (Nat × Nat)} {f : Nat → Nat × Nat}
    (hg : Hid (w.heap[g]? = some (.cells (cur.map ce).toArray 26 (0, 0)))) (hR : Hid (RD w lg lo n f)) (ho : lo' = lo + s) (hk : s + sLen ≤ n) (hle : sLen ≤ dLen) (hfit : off + sLen ≤ cur.length)
    (h : ∀ w', Hid (w'.heap[g]? = some (.cells ((splice cur off (cut f s sLen)).map ce).toArray 26 (0, 0))) → Hid (But g w w') → o.upon Try.prog a next Q (F (.int .i64 sLen) w')) :
    o.upon Try.prog a next Q (((Builtin.copy_ #[22, 22] 3 #[.slice (some ⟨g, off, none⟩) dLen dCap, .slice (some ⟨lg, lo', none⟩) sLen sCap]).run Try.prog w).andThen F) := by
  subst ho
  have hl : ((cut f s sLen).map ce).length = sLen := by rw [List.length_map, cut_len]
  have e := run_copy_row (P := Try.prog) w 22 22 3 26 g off dLen dCap ⟨lg, lo + s, none⟩ sLen sCap (cur.map ce).toArray 26 ((cut f s sLen).map ce) Try.underlying22 sz26 hg.out (by rw [hl]; exact (Nat.min_eq_left hle).symm) (src_ok hR.out hk) (by rw [hl]; simpa using hfit) ce_one
  rw [e, hl]
  refine h _ ?_ ⟨rfl, rfl, rfl, by simp [World.setRow], fun k _ hne => setRow_other _ _ _ _ (by simpa using hne)⟩
  show _ = _
  rw [setRow_heap _ _ _ _ _ _ hg.out]
  congr 3
  simp [splice, cut_len]
theorem splice_at (L X : List (Nat × Nat)) (off i : Nat) (h : off + X.length ≤ L.length) : (splice L off X)[i]! = if off ≤ i ∧ i < off + X.length then X[i - off]! else L[i]! := by
  simp only [getElem!_def, splice, List.getElem?_append, List.length_take, List.getElem?_take, List.getElem?_drop]
  by_cases h1 : i < off
  · rw [if_pos (by omega), if_pos h1, if_neg (by omega)]
  · rw [if_neg (by omega)]
    have e : i - min off L.length = i - off := by omega
    rw [e]
    by_cases h2 : i < off + X.length
    · rw [if_pos (by omega), if_pos (by omega)]
    · rw [if_neg (by omega), if_neg (by omega)]
      have e2 : off + X.length + (i - off - X.length) = i := by omega
      rw [e2]
theorem EQ.copied {w0 w w' : World} {A B n m : Nat} {σ : Nat → Nat} {T : Nat → Nat → CN} (h : EQ w0 w A B n m σ T) {d : List (Nat × Nat)} (hd : CRow w0.heap.size w (.slice (some ⟨B, 0, none⟩) (n * m) (n * m)) d) (hT : ∀ i j, i < n → j < m → ab2 d[σ i * m + j]! = T i j) {i s : Nat} (hi : i < n) (hs : s ≤ m) (hK : n * m ≤ 1000000) (f : Nat → Nat × Nat)
    (h1 : w'.heap[B]? = some (.cells ((splice d (σ i * m) (cut f 0 s)).map ce).toArray 26 (0, 0))) (h2 : But B w w') : EQ w0 w' A B n m σ (fun a b => if a = i ∧ b < s then ab2 (f b) else T a b) := by
  obtain ⟨l, hl, k1, k2⟩ := h.ans
  have hdl := hd.len
  have hfit : σ i * m + (cut f 0 s).length ≤ d.length := by
    rw [cut_len, hdl]
    have := Nat.mul_le_mul_right m (h.lt i hi)
    rw [Nat.succ_eq_add_one, Nat.add_mul] at this
    omega
  have hsl : (splice d (σ i * m) (cut f 0 s)).length = n * m := by rw [length_splice _ _ _ hfit]; exact hdl
  refine ⟨h.ne, h.loA, h.loB, ⟨l, hl, owns_far k1 h2 h.ne, k2⟩, ⟨_, CRow.of_heap hsl h.loB hK h1, fun a b ha hb => ?_⟩, h.inj, h.lt, h2.up h.up h.loB⟩
  rw [splice_at _ _ _ _ hfit, cut_len]
  by_cases e : a = i ∧ b < s
  · obtain ⟨rfl, hbs⟩ := e
    rw [if_pos ⟨by omega, by omega⟩, if_pos ⟨rfl, hbs⟩]
    congr 1
    have : σ a * m + b - σ a * m = b := by omega
    rw [this, getElem!_pos _ b (by rw [cut_len]; exact hbs)]
    simp [cut]
  · rw [if_neg e, if_neg, hT a b ha hb]
    rintro ⟨q1, q2⟩
    obtain ⟨c, hc⟩ : ∃ c, σ a * m + b = σ i * m + c := ⟨σ a * m + b - σ i * m, by omega⟩
    obtain ⟨q3, q4⟩ := idx_inj' (j' := c) hb (by omega) hc
    exact e ⟨h.inj a i ha hi q3, by omega⟩
theorem BK.eq {w wr : World} {A B n m : Nat} (h : BK w wr A B n m n) : EQ w wr A B n m (fun i => i) (fun _ _ => (ab 0, ab 0)) :=
  ⟨h.ne, h.loA, h.loB, h.ans, ⟨_, h.all, fun i j hi hj => by
    rw [getElem!_pos _ _ (by rw [List.length_replicate]; exact idx_lt' hi hj)]
    simp [ab2]⟩, fun _ _ _ _ e => e, fun _ hi => hi, h.up⟩
/-- The equations: the numbers of the table, and behind each row its number of b. -/
def joT (f : Nat → Nat → Nat × Nat) (fb : Nat → Nat × Nat) (n k : Nat) : Nat → Nat → CN := fun a b => if a < k then (if b < n then ab2 (f a b) else if b = n then ab2 (fb a) else (ab 0, ab 0)) else (ab 0, ab 0)
theorem joT_step {f : Nat → Nat → Nat × Nat} {fb : Nat → Nat × Nat} {n k : Nat} {v : CN} (hv : v = ab2 (fb k)) : upd2 (fun a b => if a = k ∧ b < n then ab2 (f k b) else joT f fb n k a b) k n v = joT f fb n (k + 1) := by
  funext a b
  unfold upd2 joT
  simp only []
  by_cases e : a = k
  · subst e
    by_cases e2 : b = n
    · subst e2
      rw [if_pos ⟨rfl, rfl⟩, if_pos (by omega), if_neg (by omega), if_pos rfl, hv]
    · rw [if_neg (fun q => e2 q.2)]
      by_cases e3 : b < n
      · rw [if_pos ⟨rfl, e3⟩, if_pos (by omega), if_pos e3]
      · rw [if_neg (fun q => e3 q.2), if_neg (by omega), if_pos (by omega), if_neg e3, if_neg e2]
  · rw [if_neg (fun q => e q.1), if_neg (fun q => e q.1)]
    by_cases e4 : a < k
    · rw [if_pos e4, if_pos (show a < k + 1 by omega)]
    · rw [if_neg e4, if_neg (show ¬ a < k + 1 by omega)]
def JoR (n : Nat) (T : Nat → Nat → CN) (w : World) (e : Ending) (w' : World) : Prop := ∃ A B, e = .returned (.slice (some ⟨A, 0, none⟩) n n) ∧ Hid (EQ w w' A B n (n + 1) (fun i => i) T)
set_option maxHeartbeats 8000000 in
set_option maxRecDepth 20000 in
theorem t14 {w : World} {p pb : Option Addr} {n c cb : Nat} {L : Nat → Nat} {f : Nat → Nat → Nat × Nat} {fb : Nat → Nat × Nat} (h : TR w p n L f) (hb : RowV w pb n fb) (hL : ∀ i, i < n → L i = n) (hn : n ≤ 64) : Calls Try.prog 14 #[.slice p n c, .slice pb n cb] w (JoR n (joT f fb n n) w) := by
  have HS : Hid (TR w p n L f ∧ RowV w pb n fb ∧ ∀ i, i < n → L i = n) := ⟨h, hb, hL⟩
  have hn1 : n * (n + 1) ≤ 262144 := Nat.le_trans (Nat.mul_le_mul hn (show n + 1 ≤ 65 by omega)) (by decide)
  have T22 : Hid (Calls Try.prog 22 #[.int .i64 n, .int .i64 ((n + 1 : Nat) : Int)] w (BL w n (n + 1))) := t22 n (n + 1) w (by omega) (by omega) hn1
  obtain ⟨m, hm⟩ : ∃ m, n + 1 = m := ⟨_, rfl⟩
  have HM : Hid (n + 1 = m ∧ n * m ≤ 1000000) := ⟨hm, by rw [← hm]; omega⟩
  rw [hm] at T22
  have z0 : (n : Int) + 1 = m := by omega
  have z1 : (n : Int) ≤ 64 := by omega
  have z2 : (n : Int) < (m : Int) := by omega
  clear h hb hL hm hn1
  go_enter Try.func14, Try.ntmps14
  go_wp2_with (go_at_call 22; (with_reducible refine T22.out.mono ?_); rintro e w1 ⟨A, B, rfl, HB⟩)
  have HE0 : Hid (EQ w w1 A B n m (fun i => i) (joT f fb n 0)) := by
    have := HB.out.eq
    have e : joT f fb n 0 = fun _ _ => (ab 0, ab 0) := by funext a b; unfold joT; rw [if_neg (by omega)]
    rw [e]; exact this
  clear HB T22
  go_loopw [7, 8, 17] (fun _ _ vi wr => ∃ k : Nat, k ≤ n ∧ vi = .int .i64 k ∧ Hid (EQ w wr A B n m (fun i => i) (joT f fb n k))) (fun _ _ vi _ => n - (intOf vi).toNat)
  case atStart => exact ⟨0, by omega, rfl, HE0⟩
  case round =>
    clear HE0
    obtain ⟨k, hk, rfl, HE⟩ := hrel
    rename World => wr
    by_cases hlt : k < n
    · have c0 := HE.out.row hlt
      obtain ⟨b0, o0, rfl, hr⟩ := (HS.out.1.up HE.out.up) (by omega)
      obtain ⟨q, cq, c1, hcq, hrv⟩ := hr k hlt
      have hLk := HS.out.2.2 k hlt
      rw [hLk] at c1 hrv hcq
      obtain ⟨g, go, rfl, hrd⟩ := hrv (by omega)
      obtain ⟨gb, ob, rfl, hrb⟩ := (HS.out.2.1.up HE.out.up) (by omega)
      have c2 := hrb k hlt
      obtain ⟨bx0, by0, hbx⟩ : ∃ x y, fb k = (x, y) := ⟨_, _, rfl⟩
      rw [hbx] at c2
      have c3 : wr.cell? ⟨gb, ob + k, none⟩ = some (.complex .f64 bx0 by0) := c2
      have HBX : Hid (fb k = (bx0, by0)) := hbx
      obtain ⟨d, hd, hdT⟩ := HE.out.all
      obtain ⟨X, hX⟩ : ∃ X, k * m = X := ⟨_, rfl⟩
      have HD : Hid (CRow w.heap.size wr (.slice (some ⟨B, 0, none⟩) (n * m) (n * m)) d ∧ ∀ i j, i < n → j < m → ab2 d[i * m + j]! = joT f fb n k i j) := ⟨hd, hdT⟩
      have hdl := hd.len
      have HH : Hid (wr.heap[B]? = some (.cells (d.map ce).toArray 26 (0, 0))) := hd.heap
      have HR : Hid (RD wr g go n (f k)) := hrd
      have HXX : Hid (k * m = X) := hX
      have hfit : X + n ≤ d.length := by
        rw [hdl, ← hX]
        have := Nat.mul_le_mul_right m hlt
        rw [Nat.succ_eq_add_one, Nat.add_mul] at this
        have := HM.out.1
        omega
      have HF : Hid (X + n ≤ d.length) := hfit
      have c0' : wr.cell? ⟨A, k, none⟩ = some (.slice (some ⟨B, X, none⟩) m m) := by rw [← hX]; exact c0
      have hne : gb ≠ B := by
        intro e
        have h1 := HE.out.loB
        obtain ⟨gb', ob', e', hr'⟩ := HS.out.2.1 (by omega)
        simp only [Option.some.injEq, Addr.mk.injEq] at e'
        have h3 := World.block_lt_of_cell? w _ (hr' k hlt)
        have h4 : gb' < w.heap.size := h3
        omega
      have y1 : (k : Int) < (n : Int) := by omega
      have HNe : Hid (n ≤ m) := (by have := HM.out.1; omega : n ≤ m)
      clear hr hrd hrb c2 hbx hd hdT c0 hX hfit hdl hLk
      go_upto_region 7 with ((with_reducible refine upon_copy (s := 0) HH HR rfl (by omega) HNe.out HF.out ?_); intro w2 HC2 HB2)
      have HE2 := HE.out.copied HD.out.1 HD.out.2 (i := k) (s := n) hlt HNe.out HM.out.2 (f k) (by rw [HXX.out]; exact HC2.out) HB2.out
      have HE3 : Hid (EQ w w2 A B n m (fun i => i) (fun a b => if a = k ∧ b < n then ab2 (f k b) else joT f fb n k a b)) := HE2
      have c4 := HB2.out.cell hne c3
      obtain ⟨x9, y9, c9, -, f9⟩ := HE3.out.cell (i := k) (j := n) hlt (by have := HM.out.1; omega)
      have c9' : (w2.cell? ⟨B, X + n, none⟩).isSome = true := by rw [← HXX.out, c9]; rfl
      have f9' : w2.frozen? ⟨B, X + n, none⟩ = false := by rw [← HXX.out]; exact f9
      have HP : Hid (EQ w (w2.setCell ⟨B, X + n, none⟩ (.complex .f64 bx0 by0)) A B n m (fun i => i) (joT f fb n (k + 1))) := by
        have := HE3.out.put (i := k) (j := n) hlt (by have := HM.out.1; omega) bx0 by0
        rw [joT_step (by rw [HBX.out]; rfl)] at this
        rw [← HXX.out]; exact this
      clear HE2 HE3 HE HC2 HB2 HD HH HR c9 f9 c1 c0' c3
      go_wp2
      go_roundw
      case rel => exact ⟨k + 1, by omega, by go_num, HP⟩
      case measure => simp [intOf]; omega
    · obtain rfl : k = n := by omega
      go_wp2
      go_ret
      refine ⟨A, B, rfl, ?_⟩
      rw [HM.out.1]
      exact HE
end Go.Proofs.Ythpoipajfkfdeab

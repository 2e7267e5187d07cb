/- search. -/
import Derived.Test.YtdajgnchgealhaaBg
import Derived.ArgAppend
import Derived.WalkMore
namespace Go.Proofs.Ytdajgnchgealhaa
open Go.ChangeShapes Go.WideShapes Go.ChangeAt Go.RowKit
attribute [local go_sem] isSome_set

theorem info3 : ∃ i, Try.prog.info? 3 = some i ∧ i.size = 1 := by
  have h : (Try.prog.info? 3).map (fun i => i.size) = some 1 := by kernel_rfl
  cases hi : Try.prog.info? 3 with
  | none => rw [hi] at h; cases h
  | some i => rw [hi] at h; exact ⟨i, rfl, by simpa using h⟩
theorem run_app1 (w : World) (b off l cap g : Nat) (ty : TypeId) (x : Int) (hx : w.cell? ⟨g, 0, none⟩ = some (.int .i64 x)) (hroom : l < cap) (hc : (w.cell? ⟨b, off + l, none⟩).isSome = true) (hf : w.frozen? ⟨b, off + l, none⟩ = false) : (Builtin.append_ #[23, 23] ty #[.slice (some ⟨b, off, none⟩) l cap, .slice (some ⟨g, 0, none⟩) 1 1]).run Try.prog w = .ok (.slice (some ⟨b, off, none⟩) (l + 1) cap) (w.setCell ⟨b, off + l, none⟩ (.int .i64 x)) := by
  obtain ⟨i, hi, h1⟩ := info3
  have := run_append_room_cells (P := Try.prog) w 23 ty 3 i (by kernel_rfl) hi b off l cap ⟨g, 0, none⟩ 1 1 [.int .i64 x] (by rw [h1]; rfl) (fun j u hj => by
    cases j with
    | zero => simp at hj; subst hj; exact hx
    | succ j => simp at hj) (fun u hu => by simp at hu; subst hu; rfl) (by omega) (fun j hj => by
      have : j = 0 := by simpa using hj
      subst this
      rw [h1]; simpa using hc) (fun j hj => by
      have : j = 0 := by simpa using hj
      subst this
      rw [h1]; simpa using hf)
  rw [this, h1, Nat.mul_one]
  rfl
theorem wpList_app1 {ops : Array Oper} {rest : List Oper} {o : Oper} {a : Act} {Q : Exit → Act → World → Prop} {w : World} (hg : o.guard = none) (s x : Operand) (hop : o.op = Op.call { callee := Callee.builtin Builtin.append, args := #[s, x], argTypes := #[23, 23] }) {b off l cap g : Nat} {v : Int} (hs : a.eval s = .slice (some ⟨b, off, none⟩) l cap) (hx : a.eval x = .slice (some ⟨g, 0, none⟩) 1 1) (hc : w.cell? ⟨g, 0, none⟩ = some (.int .i64 v)) (hroom : l < cap) (h1 : (w.cell? ⟨b, off + l, none⟩).isSome = true) (h2 : w.frozen? ⟨b, off + l, none⟩ = false)
    (hK : wpList Try.prog ops Q rest (a.put o.dst (.slice (some ⟨b, off, none⟩) (l + 1) cap)) (w.setCell ⟨b, off + l, none⟩ (.int .i64 v))) : wpList Try.prog ops Q (o :: rest) a w := by
  refine wpList_plain hg fun K hK' => ?_
  have hrun := run_app1 w b off l cap g o.type v hc hroom h1 h2
  unfold Oper.wp
  simp [execOp, hop, resolve, invoke, builtin, hs, hx, hrun, Result.andThen]
  exact hK' _ _ hK
theorem SQ.up {w w' : World} {L : Lay} {n : Nat} {s : Sq} (h : SQ w L n s) (hn : 0 < n) (hu : Up w w') : SQ w' L n s :=
  ⟨cell_up h.s0 hu, cell_up h.s1 hu, cell_up h.s2 hu, cell_up h.s3 hu, cell_up h.s4 hu, cell_up h.s5 hu, cell_up h.s6 hu, cell_up h.s7 hu, cell_up h.s8 hu, fun i hi => cell_up (h.ct i hi) hu, fun i j hi hj => cell_up (h.cc i j hi hj) hu, fun i hi => cell_up (h.cu i hi) hu, fun i hi => cell_up (h.cv i hi) hu, fun i hi => cell_up (h.cq i hi) hu, fun i hi => cell_up (h.cm i hi) hu, fun i hi => cell_up (h.co i hi) hu, fun i hi => cell_up (h.cd i hi) hu, fun i hi => cell_up (h.cf i hi) hu, fun i hi => cell_up (h.cr i hi) hu, fun k => (World.frozen?_of_block (hu.block L.bc (World.block_lt_of_cell? w _ (h.cu 0 hn)))).trans (h.fc k), fun k => (World.frozen?_of_block (hu.block L.bp (World.block_lt_of_cell? w _ (h.cm 0 hn)))).trans (h.fp k)⟩
/-- 'from' is -1 up to a place. -/
structure SetF (s s' : Sq) (k : Nat) : Prop where
  same : s'.c = s.c ∧ s'.u = s.u ∧ s'.v = s.v ∧ s'.m = s.m ∧ s'.o = s.o
  f : ∀ j, j < k → s'.f j = -1
theorem SetF.next {s s' : Sq} {k : Nat} (h : SetF s s' k) : SetF s { s' with f := upd s'.f k (-1) } (k + 1) := by
  refine ⟨h.same, fun j hj => ?_⟩
  show upd s'.f k _ j = _
  by_cases e : j = k
  · subst e; exact upd_at _ _ _
  · rw [upd_ne _ _ e]; exact h.f j (by omega)
theorem SetF.se {n row held : Nat} {s s' : Sq} (h : SetF s s' n) (hh : held < n) : Se n row held s { s' with r := upd s'.r 0 held } 1 0 0 := by
  refine ⟨h.same, by omega, by omega, upd_at s'.r 0 held, fun a ha => ⟨held, hh, ?_⟩, fun a b ha hb _ => by omega, fun a h0 ha => by omega, fun x hx => Or.inl (h.f x hx), fun a j x ha hj hx hxr hf hor => by omega⟩
  have : a = 0 := by omega
  subst this
  exact upd_at s'.r 0 held
theorem Se.le {n row held : Nat} {s0 s : Sq} {l p t : Nat} (h : Se n row held s0 s l p t) : l ≤ n := pigeon l n (fun a => (s.r a).toNat) (fun a ha => by
  obtain ⟨j, h1, h2⟩ := h.rc a ha
  show (s.r a).toNat < n
  rw [h2, Int.toNat_natCast]; exact h1) (fun a b ha hb he => by
  obtain ⟨j, h1, h2⟩ := h.rc a ha
  obtain ⟨j', h3, h4⟩ := h.rc b hb
  revert he
  show (s.r a).toNat = (s.r b).toNat → _
  intro he
  exact h.ri a b ha hb (by omega))
theorem Se.may_eq {n row held : Nat} {s0 s : Sq} {l p t : Nat} (h : Se n row held s0 s l p t) (x j row' k : Nat) (hk : s0.m x = k) : mayB s x j row' k = may s0 x j row' := by
  unfold may mayB borneB toldI
  rw [h.same.1, h.same.2.1, h.same.2.2.1, hk, Int.toNat_natCast]
theorem Se.small {n row held : Nat} {s0 s : Sq} {l p t : Nat} (h : Se n row held s0 s l p t) (hb : Small n s0) : Small n s := by
  refine ⟨?_, ?_, ?_⟩
  · rw [h.same.1]; exact hb.c
  · rw [h.same.2.1]; exact hb.u
  · rw [h.same.2.2.1]; exact hb.v
set_option maxRecDepth 20000 in
set_option maxHeartbeats 1000000 in
theorem t37 {w : World} {L : Lay} {b n row held first : Nat} {s : Sq} (h : SQ w L n s) (hL : L.Ok b n) (hp : Per n s) (hb : Small n s) (hrow : s.m row = held) (hrn : row < n) (hh : held < n) (hbw : b ≤ w.heap.size) (hn : n ≤ 256) : Calls Try.prog 37 #[.pointer (some ⟨L.bs, 0, none⟩), .int .i64 row, .int .i64 first] w fun e w' => ∃ s', e = .returned (.tuple #[]) ∧ Hid (SQ w' L n s') ∧ Hid (Srch n row first held s s') ∧ Hid (Kq L b w w') := by
  have HS : Hid (SQ w L n s) := h
  have HL : Hid (L.Ok b n) := hL
  have HP : Hid (Per n s) := hp
  have HB : Hid (Small n s) := hb
  have HR : Hid (s.m row = held) := hrow
  have h7 := h.s7
  have hrn' : (row : Int) < n := by omega
  clear h hL hp hrow hb
  go_enter Try.func37, Try.ntmps37
  go_wp2_with fail
  go_step3
  go_wp2_with fail
  go_loopw [16] (fun v wr => ∃ (i : Nat) (s' : Sq), i ≤ n ∧ v = .int .i64 i ∧ Hid (SQ wr L n s') ∧ Hid (SetF s s' i) ∧ Hid (Kq L b w wr)) (fun v _ => n - (intOf v).toNat)
  case atStart => exact ⟨0, s, by omega, rfl, HS, ⟨⟨rfl, rfl, rfl, rfl, rfl⟩, fun j hj => by omega⟩, Kq.refl _ _ _⟩
  case round =>
    obtain ⟨i, s', hi, rfl, HS', HN, HX⟩ := hrel
    rename World => wr
    clear h7
    by_cases hlt : i < n
    · have h7 := HS'.out.s7
      have e1 := HS'.out.cf i hlt
      have fz1 := HS'.out.fp (L.of + i)
      have hi' : (i : Int) < n := by omega
      generalize s'.f i = q0 at *
      go_wp2_with fail
      have HS2 : Hid (SQ (wr.setCell ⟨L.bp, L.of + i, none⟩ (.int .i64 (-1))) L n { s' with f := upd s'.f i (-1) }) := HS'.out.setf HL.out hlt _
      have HX2 : Hid (Kq L b w (wr.setCell ⟨L.bp, L.of + i, none⟩ (.int .i64 (-1)))) := Kq.setCell HX.out HL.out.st.2.2.2 (Or.inr rfl) _
      go_roundw
      case rel => exact ⟨i + 1, _, by omega, by go_num, HS2.out, HN.out.next, HX2.out⟩
      case measure => simp [intOf]; omega
    · obtain rfl : i = n := by omega
      have h0 := HS'.out.s0
      have h8 := HS'.out.s8
      have h3 := HS'.out.s3
      have e1 := HS'.out.cm row hrn
      rw [HN.out.same.2.2.2.1, HR.out] at e1
      have e2 := HS'.out.cr 0 (by omega)
      have fz := HS'.out.fp L.orr
      rw [Nat.add_zero] at e2
      have hi0 : (0 : Int) ≤ i := by omega
      have hi1 : 1 ≤ i := by omega
      have HSA : Hid (SQ (wr.alloc (.cells #[.int .i64 held] 3)) L i s') := HS'.out.up (by omega) (Up.alloc _ _)
      have a8 := HSA.out.s8
      have a2 := HSA.out.cr 0 (by omega)
      have af := HSA.out.fp L.orr
      rw [Nat.add_zero] at a2
      have HSB : Hid (SQ (((wr.alloc (.cells #[.int .i64 held] 3)).setCell ⟨L.bp, L.orr, none⟩ (.int .i64 held)).drew) L i { s' with r := upd s'.r 0 held }) := by
        have := (HSA.out.setr HL.out (j := 0) (by omega) held).drew
        rw [Nat.add_zero] at this
        exact this
      have HXB : Hid (Kq L b w (((wr.alloc (.cells #[.int .i64 held] 3)).setCell ⟨L.bp, L.orr, none⟩ (.int .i64 held)).drew)) := Kq.drewN (Kq.setCell (Kq.alloc HX.out (Nat.le_trans hbw HX.out.1.size) _) HL.out.st.2.2.2 (Or.inr rfl) _) 1
      generalize s'.r 0 = r0 at a2 e2
      go_wp2_with fail
      go_region
      generalize ((wr.alloc (.cells #[.int .i64 held] 3)).setCell ⟨L.bp, L.orr, none⟩ (.int .i64 held)).drew = W1 at *
      have HE1 : Hid (Se i row held s { s' with r := upd s'.r 0 held } 1 0 0) := HN.out.se hh
      generalize ({ s' with r := upd s'.r 0 held } : Sq) = s1 at *
      clear h0 h8 h3 e1 fz HSA a8 a2 af e2
      go_wp2_with fail
      go_step3
      go_wp2_with fail
      go_loopw [8, 9] (fun v8 v9 wx => ∃ (l p : Nat) (s2 : Sq), v8 = .slice (some ⟨L.bp, L.orr, none⟩) l i ∧ v9 = .int .i64 p ∧ Hid (SQ wx L i s2) ∧ Hid (Se i row held s s2 l p 0) ∧ Hid (Kq L b w wx)) (fun _ v9 _ => i - (intOf v9).toNat)
      case atStart => exact ⟨1, 0, s1, rfl, rfl, HSB, HE1, HXB⟩
      case round =>
        clear HSB HE1 HXB HN HX HS'
        obtain ⟨l, p, s2, rfl, rfl, HS2, HE2, HX2⟩ := hrel
        rename World => wx
        have hle := HE2.out.le
        have hpl := HE2.out.pl
        by_cases hp : p < l
        · have hp' : (p : Int) < l := by omega
          go_wp2_with fail
          go_loopw [8, 53] (fun v8 v53 wy => ∃ (l t : Nat) (s3 : Sq), p < l ∧ t ≤ i ∧ v8 = .slice (some ⟨L.bp, L.orr, none⟩) l i ∧ v53 = .int .i64 t ∧ Hid (SQ wy L i s3) ∧ Hid (Se i row held s s3 l p t) ∧ Hid (Kq L b w wy)) (fun _ v53 _ => i - (intOf v53).toNat)
          case atStart => exact ⟨l, 0, s2, hp, by omega, rfl, rfl, HS2, HE2, HX2⟩
          case round =>
            clear HS2 HE2 HX2 hle hpl hp hp'
            obtain ⟨l, t, s3, hp, ht, rfl, rfl, HS3, HE3, HX3⟩ := hrel
            rename World => wy
            have hle := HE3.out.le
            have hp' : (p : Int) < l := by omega
            by_cases hlt : t < i
            · obtain ⟨j, hj, hrj⟩ := HE3.out.rc p hp
              have ht' : (t : Int) < i := by omega
              have h7 := HS3.out.s7
              have e7 := HS3.out.cf t hlt
              have e8 := HS3.out.cr p (by omega)
              rw [hrj] at e8
              obtain ⟨k, hk, hmk, -⟩ := HP.out.m t hlt
              have HMK : Hid (s3.m t = k) := by show _ = _; rw [HE3.out.same.2.2.2.1]; exact hmk
              by_cases htr : t = row
              · have HN3 : Hid (Se i row held s s3 l p (t + 1)) := HE3.out.skip hrj (Or.inl htr)
                have htb : ((t : Int) == (row : Int)) = true := by simp [htr]
                clear htr
                go_wp2_with fail
                go_roundw
                case rel => exact ⟨l, t + 1, s3, hp, by omega, rfl, by go_num, HS3, HN3, HX3⟩
                case measure => simp [intOf]; omega
              · have htb : ((t : Int) == (row : Int)) = false := beq_false_of_ne (by omega)
                by_cases hft : s3.f t = -1
                · have C41 : Hid (Calls Try.prog 41 #[.pointer (some ⟨L.bs, 0, none⟩), .int .i64 t, .int .i64 j, .int .i64 row] wy (DV wy (.bool (may s t j row)))) := by
                    have := t41 (row := row) HS3.out (HE3.out.small HB.out) hlt hj hk HMK.out
                    rw [HE3.out.may_eq t j row k hmk] at this
                    exact this
                  rw [hft] at e7
                  cases hmay : may s t j row with
                  | false =>
                    have HN3 : Hid (Se i row held s s3 l p (t + 1)) := HE3.out.skip hrj (Or.inr (Or.inr hmay))
                    rw [hmay] at C41
                    have HC41 : Hid (Calls Try.prog 41 #[.pointer (some ⟨L.bs, 0, none⟩), .int .i64 t, .int .i64 j, .int .i64 row] wy (DV wy (.bool false))) := C41
                    clear htr hft hmay C41 hmk hrj
                    go_wp2_with (first | (go_at_call 41; (with_reducible refine HC41.out.mono ?_); rintro e w' ⟨rfl, q0, hq0⟩; subst hq0))
                    go_roundw
                    case rel => exact ⟨l, t + 1, s3, hp, by omega, rfl, by go_num, HS3.out.drewN _, HN3, Kq.drewN HX3.out _⟩
                    case measure => simp [intOf]; omega
                  | true =>
                    rw [hmay] at C41
                    have HC41 : Hid (Calls Try.prog 41 #[.pointer (some ⟨L.bs, 0, none⟩), .int .i64 t, .int .i64 j, .int .i64 row] wy (DV wy (.bool true))) := C41
                    have HFO : Hid (k = first → Srch i row first held s { s3 with f := upd s3.f t j }) := fun e => HE3.out.found HP.out HR.out hrn hlt htr hft hp hrj hmay (by rw [hmk, e])
                    have HTK : Hid (Se i row held s { s3 with f := upd s3.f t j, r := upd s3.r l (s.m t) } (l + 1) p (t + 1)) := HE3.out.take HP.out HR.out hrn hlt htr hft hp hrj hmay
                    have hli : l < i := (HE3.out.room HP.out HR.out hrn hlt htr hft).1
                    rw [hmk] at HTK
                    have HTK2 : Hid (Se i row held s { s3 with f := upd s3.f t j, r := upd s3.r l k } (l + 1) p (t + 1)) := HTK
                    have fz7 := HS3.out.fp (L.of + t)
                    clear htr hft hmay C41 hmk hrj HTK
                    go_wp2_with (first | (go_at_call 41; (with_reducible refine HC41.out.mono ?_); rintro e w' ⟨rfl, q0, hq0⟩; subst hq0))
                    go_region
                    have HS4 : Hid (SQ ((wy.drewN (q0 + 1)).setCell ⟨L.bp, L.of + t, none⟩ (.int .i64 j)) L i { s3 with f := upd s3.f t j }) := (HS3.out.drewN _).setf HL.out hlt _
                    have HX4 : Hid (Kq L b w ((wy.drewN (q0 + 1)).setCell ⟨L.bp, L.of + t, none⟩ (.int .i64 j))) := Kq.setCell (Kq.drewN HX3.out _) HL.out.st.2.2.2 (Or.inr rfl) _
                    generalize (wy.drewN (q0 + 1)).setCell ⟨L.bp, L.of + t, none⟩ (.int .i64 j) = W4 at *
                    clear HC41 h7 e7 e8 fz7 HS3 HX3
                    have h3 := HS4.out.s3
                    have e3 := HS4.out.cm t hlt
                    simp only [HMK.out] at e3
                    by_cases hkf : k = first
                    · have hkb : ((k : Int) == (first : Int)) = true := by simp [hkf]
                      have HD : Hid (Srch i row first held s { s3 with f := upd s3.f t j }) := HFO.out hkf
                      clear hkf HFO HTK2
                      go_wp2_with fail
                      rw [Exit.noGoto_normal]
                      go_end0
                      exact ⟨_, rfl, HS4, HD, HX4⟩
                    · have hkb : ((k : Int) == (first : Int)) = false := beq_false_of_ne (by omega)
                      have hsz : b ≤ W4.heap.size := Nat.le_trans hbw HX4.out.1.size
                      have HSA : Hid (SQ (W4.alloc (.cells #[.int .i64 k] 3)) L i { s3 with f := upd s3.f t j }) := HS4.out.up (by omega) (Up.alloc _ _)
                      have HSB : Hid (SQ ((W4.alloc (.cells #[.int .i64 k] 3)).setCell ⟨L.bp, L.orr + l, none⟩ (.int .i64 k)) L i { s3 with f := upd s3.f t j, r := upd s3.r l k }) := HSA.out.setr HL.out hli _
                      have HXB : Hid (Kq L b w ((W4.alloc (.cells #[.int .i64 k] 3)).setCell ⟨L.bp, L.orr + l, none⟩ (.int .i64 k))) := Kq.setCell (Kq.alloc HX4.out hsz _) HL.out.st.2.2.2 (Or.inr rfl) _
                      clear hkf HFO
                      go_wp2_with (first | (at_builtin; refine wpList_app1 rfl _ _ rfl rfl rfl (World.cell?_alloc_at _ _ _ _ rfl) hli (by rw [HSA.out.cr l hli]; rfl) (HSA.out.fp _) ?_))
                      go_roundw
                      case rel => exact ⟨l + 1, t + 1, _, by omega, by omega, rfl, by go_num, HSB.out, HTK2.out, HXB.out⟩
                      case measure => simp [intOf]; omega
                · have HN3 : Hid (Se i row held s s3 l p (t + 1)) := HE3.out.skip hrj (Or.inr (Or.inl hft))
                  obtain ⟨y, hy⟩ : ∃ y : Nat, s3.f t = y := by
                    rcases HE3.out.fx t hlt with e | ⟨_, _, _, y, _, _, _, _, e, _⟩
                    · exact absurd e hft
                    · exact ⟨y, e⟩
                  rw [hy] at e7
                  have hy0 : (0 : Int) ≤ y := by omega
                  clear htr hft hmk hrj hy
                  go_wp2_with fail
                  go_roundw
                  case rel => exact ⟨l, t + 1, s3, hp, by omega, rfl, by go_num, HS3, HN3, HX3⟩
                  case measure => simp [intOf]; omega
            · obtain rfl : t = i := by omega
              have HN3 : Hid (Se t row held s s3 l (p + 1) 0) := HE3.out.nextP hp
              go_wp2_with fail
              go_roundw
              case rel => exact ⟨l, p + 1, s3, rfl, by go_num, HS3, HN3, HX3⟩
              case measure => simp [intOf]; omega
        · obtain rfl : p = l := by omega
          have HD : Hid (Srch i row first held s s2) := HE2.out.done HP.out
          go_wp2_with fail
          rw [Exit.noGoto_normal]
          go_end0
          exact ⟨_, rfl, HS2, HD, HX2⟩
end Go.Proofs.Ytdajgnchgealhaa

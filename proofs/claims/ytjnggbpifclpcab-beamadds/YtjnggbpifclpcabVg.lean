/- Fan of two elements. -/
import Derived.Test.YtjnggbpifclpcabVf
namespace Go.Proofs.Ytjnggbpifclpcab
open Go.ChangeShapes Go.WideShapes Go.ChangeAt Go.RowKit Go.Fl Ieee
attribute [local go_sem] run_store_float run_store_complex call20 call19 run_neg fold_eq fold_ne fold_lt fold_gt abs_eq

theorem eg33 (args : Array Value) (w : World) : (callFunc 33 args).run Try.prog w = .ok (.enter 33 args) w := enters Try.func33 (by kernel_rfl) (by kernel_rfl) _ _
theorem fan41 {w W : World} {p : Option Addr} {c bf A B : Nat} {f : Nat → Nat → Nat × Nat} {T : Nat → CN} (hT : TR w p 2 (fun _ => 1) f) (hS : FnS w W.heap.size 2 bf A B T 0 W) (hB : w.heap.size ≤ B) (hF : (List.range 2).map T = fastL false 1 (fun k => ab2 (f k 0))) :
    Calls Try.prog 16 #[.slice p 2 c, .func (.func 33) #[] #[.pointer (some ⟨bf, 0, none⟩)]] W fun e w' => e = .returned (.tuple #[]) ∧ Hid (FnS w W.heap.size 2 bf A B T 1 w') ∧ Hid (Up w w') := by
  refine t16 33 _ (FnS w W.heap.size 2 bf A B T) B eg33 hT hS.up hB hS.lt.2.2.1 (by omega) (by omega) (by omega) hS (fun i A wr w' hA hr hb => hr.far hA hb) fun i hi A wr hA hr hx => ?_
  obtain rfl : i = 0 := by omega
  exact t33 hr hx (M := 1) rfl (by omega) hF
theorem fn_start {w w2 : World} {A B : Nat} {T : Nat → CN} (h : BK w w2 A B 2 1 2) : FnS w (w2.alloc (.cells #[.slice (some ⟨A, 0, none⟩) 2 2] 24)).heap.size 2 w2.heap.size A B T 0 (w2.alloc (.cells #[.slice (some ⟨A, 0, none⟩) 2 2] 24)) := by
  have hb := h.done
  have e2 : (w2.alloc (.cells #[.slice (some ⟨A, 0, none⟩) 2 2] 24)).heap.size = w2.heap.size + 1 := by simp
  have l1 := (World.ownsRow.lt hb.all B rfl).2
  have l2 := World.block_lt_of_cell? w2 _ (hb.ans 0 (by omega))
  have l3 := hb.up.size
  refine ⟨⟨_, hb.mono (Up.alloc _ _), fun h => by omega⟩, World.cell?_alloc_at _ _ _ _ rfl, by omega, ?_⟩
  rw [e2]
  have l4 : A < w2.heap.size := l2
  exact ⟨by omega, by omega, by omega, by omega⟩
/-- What Fan leaves. -/
def FaR (T : Nat → CN) (w : World) (e : Ending) (w' : World) : Prop := ∃ A B d, e = .returned (.tuple #[.slice (some ⟨A, 0, none⟩) 2 2, .int .i64 0]) ∧ Hid (BT w w' A B 2 1 d ∧ ∀ b, b < 2 → ab2 d[b]! = T b)
set_option maxHeartbeats 4000000 in
set_option maxRecDepth 20000 in
theorem t14 {w : World} {p : Option Addr} {c : Nat} {f : Nat → Nat → Nat × Nat} {T : Nat → CN} (hT : TR w p 2 (fun _ => 1) f) (hF : (List.range 2).map T = fastL false 1 (fun k => ab2 (f k 0))) : Calls Try.prog 14 #[.slice p 2 c] w (FaR T w) := by
  have H40 : Hid (Calls Try.prog 15 #[.slice p 2 c] w (IR 0 w)) := t15 hT (by omega) (by omega) (by omega)
  have HT : Hid (TR w p 2 (fun _ => 1) f) := hT
  have HF : Hid ((List.range 2).map T = fastL false 1 (fun k => ab2 (f k 0))) := hF
  obtain ⟨b, o, rfl, hr⟩ := hT (by omega)
  obtain ⟨q0, k0, c0, -, -⟩ := hr 0 (by omega)
  rw [Nat.add_zero] at c0
  have HB : Hid (Calls Try.prog 32 #[.int .i64 2, .int .i64 1] w (BL w 2 1)) := t32 2 1 w (by omega) (by omega) (by omega)
  clear hT hF hr
  go_enter Try.func14, Try.ntmps14
  go_wp2_with (first
    | (go_at_call 15; (with_reducible refine H40.out.mono ?_); rintro e w' ⟨rfl, hw⟩; subst w')
    | (go_at_call 32; (with_reducible refine HB.out.mono ?_); rintro e w2 ⟨A, B, rfl, HK⟩; (have HS : Hid (FnS w (w2.alloc (.cells #[.slice (some ⟨A, 0, none⟩) 2 2] 24)).heap.size 2 w2.heap.size A B T 0 (w2.alloc (.cells #[.slice (some ⟨A, 0, none⟩) 2 2] 24))) := fn_start HK.out); clear c0)
    | (go_at_call 16; (with_reducible refine (fan41 HT.out HS.out HK.out.loB HF.out).mono ?_); rintro e w5 ⟨rfl, HS5, HU5⟩; (have c5 := HS5.out.cf)))
  go_ret2
  obtain ⟨d, h1, h2⟩ := HS5.out.bt
  exact ⟨A, B, d, rfl, h1, h2 (by omega)⟩
end Go.Proofs.Ytjnggbpifclpcab

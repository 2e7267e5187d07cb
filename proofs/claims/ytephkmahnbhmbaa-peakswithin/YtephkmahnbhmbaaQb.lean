/- The stable sort of few spots. -/
import Derived.Test.YtephkmahnbhmbaaQa
namespace Go.Proofs.Ytephkmahnbhmbaa
open Go.ChangeShapes Go.WideShapes Go.ChangeAt Go.RowKit Go.Fl Go.Sort Go.Shelf Go.Lib

/-- What the sort promises of a row of n spots. -/
def Sorts (n : Nat) : Prop := ∀ (blk off cap : Nat) (d : Array El) (w : World), d.size = n → HoldsK elC 3 w blk off d → blk < w.heap.size → Fit2 d → Rise 0 n d →
  Calls Try.prog 57 #[.slice (some ⟨blk, off, none⟩) n cap, .func (.func 58) #[] #[]] w fun e w' => e = .returned (.tuple #[]) ∧ ∃ d', SWK elC 3 w blk off d' w' ∧ PermIn 0 n d d' ∧ SortedIn ltE 0 n d'
set_option maxRecDepth 20000 in
theorem t70s (n blk off cap : Nat) (d : Array El) (w : World) (hn : n < 20) (hd : d.size = n) (hH : HoldsK elC 3 w blk off d) (hb : blk < w.heap.size) (hF : Fit2 d) (hR : Rise 0 n d) :
    Calls Try.prog 70 #[.slice (some ⟨blk, off, none⟩) n cap, .int .i64 n, .func (.func 58) #[] #[]] w fun e w' => e = .returned (.tuple #[]) ∧ ∃ d', SWK elC 3 w blk off d' w' ∧ PermIn 0 n d d' ∧ SortedIn ltE 0 n d' := by
  have h74 := t74 (cap := cap) (rowE hH hb) rfl (SWK.start hH) hF (hd ▸ hR) (Nat.zero_le _) (Nat.le_refl _) (by omega)
  rw [hd] at h74
  have H74 : Hid (Calls Try.prog 74 #[.slice (some ⟨blk, off, none⟩) n cap, .int .i64 0, .int .i64 n, .func (.func 58) #[] #[]] w fun e w' => e = .returned (.tuple #[]) ∧ Hid (∃ d', SWK elC 3 w blk off d' w' ∧ PermIn 0 n d d' ∧ SortedIn ltE 0 n d')) := h74
  clear h74 hH hF hR
  have n1 : (n : Int) < 20 := by omega
  go_enter Try.func70, Try.ntmps70
  go_wp2
  go_loopw [7, 8] (fun va vb wr => va = .int .i64 0 ∧ vb = .int .i64 20 ∧ Hid (wr = w)) (fun _ _ _ => 0)
  case atStart => exact ⟨rfl, rfl, rfl⟩
  case round =>
    obtain ⟨rfl, rfl, hw⟩ := hrel
    have hw := hw.out
    subst hw
    go_wp2_with (first
      | (go_at_call 74; (with_reducible refine H74.out.mono ?_); rintro e w1 ⟨rfl, HD⟩))
    go_loopw [6, 7, 8, 9] (fun vs _ _ _ wr => vs = .int .i64 20 ∧ Hid (wr = w1)) (fun _ _ _ _ _ => 0)
    case atStart => exact ⟨rfl, rfl⟩
    case round =>
      obtain ⟨rfl, hw⟩ := hrel
      have hw := hw.out
      subst hw
      go_wp2
      go_end0
      exact ⟨rfl, HD.out⟩
theorem sorts_few {n : Nat} (hn : n < 20) : Sorts n := by
  intro blk off cap d w hd hH hb hF hR
  have H70 : Hid (Calls Try.prog 70 #[.slice (some ⟨blk, off, none⟩) n cap, .int .i64 n, .func (.func 58) #[] #[]] w fun e w' => e = .returned (.tuple #[]) ∧ Hid (∃ d', SWK elC 3 w blk off d' w' ∧ PermIn 0 n d d' ∧ SortedIn ltE 0 n d')) := t70s n blk off cap d w hn hd hH hb hF hR
  clear hH hF hR
  go_enter Try.func57, Try.ntmps57
  go_wp2_with (first
    | (go_at_call 70; (with_reducible refine H70.out.mono ?_); rintro e w1 ⟨rfl, HD⟩))
  go_end0
  exact ⟨rfl, HD.out⟩
end Go.Proofs.Ytephkmahnbhmbaa

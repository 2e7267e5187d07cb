/- PlotsResolves: what is not gone over; copies of lists. -/
import Derived.Test.YtijfmaepoamkgaaZj
import Derived.Test.YtijfmaepoamkgaaZh
import Derived.Test.YtijfmaepoamkgaaRz
import Derived.Deep.AppendLies
namespace Go.Proofs.Ytijfmaepoamkgaa
open Go.ChangeShapes Go.WideShapes Go.ChangeAt Go.RowKit Go.Fl Go.Sort
attribute [local go_sem] run_store_float call53 run_neg fold_eq fold_ne fold_lt fold_gt abs_eq

/-- What 'great' answers. -/
def GrR (w : World) (n1 n2 : Nat) (C : Nat → List Int) (e : Ending) (w' : World) : Prop := ∃ b : Bool, e = .returned (.bool b) ∧ Hid (Up w w') ∧ Hid (b = false → n1 ≤ 4096 ∧ n2 ≤ 4096 ∧ ∀ i, i < n2 → (C i).length ≤ 4096)
set_option maxRecDepth 20000 in
set_option maxHeartbeats 4000000 in
theorem t13 {w : World} {p q : Option Addr} {n1 n2 c1 c2 : Nat} {C : Nat → List Int} {off most : Int} (hC : CV w q n2 C) (hcl : ∀ i, i < n2 → (C i).length < 4611686018427387904) : Calls Try.prog 13 #[.agg #[.slice p n1 c1, .slice q n2 c2, .int .i64 off, .int .i64 most]] w (GrR w n1 n2 C) := by
  have HC : Hid (CV w q n2 C) := hC
  have HCL : Hid (∀ i, i < n2 → (C i).length < 4611686018427387904) := hcl
  clear hC hcl
  go_enter Try.func13, Try.ntmps13
  go_wp2
  obtain ⟨f0, f1, f2, f3⟩ : (w.alloc (.cells #[.slice p n1 c1, .slice q n2 c2, .int .i64 off, .int .i64 most] 38)).cell? ⟨w.heap.size, 0, none⟩ = some (.slice p n1 c1) ∧ (w.alloc (.cells #[.slice p n1 c1, .slice q n2 c2, .int .i64 off, .int .i64 most] 38)).cell? ⟨w.heap.size, 1, none⟩ = some (.slice q n2 c2) ∧ (w.alloc (.cells #[.slice p n1 c1, .slice q n2 c2, .int .i64 off, .int .i64 most] 38)).cell? ⟨w.heap.size, 2, none⟩ = some (.int .i64 off) ∧ (w.alloc (.cells #[.slice p n1 c1, .slice q n2 c2, .int .i64 off, .int .i64 most] 38)).cell? ⟨w.heap.size, 3, none⟩ = some (.int .i64 most) :=
    ⟨(World.cell?_alloc_at _ _ _ _ rfl).trans rfl, (World.cell?_alloc_at _ _ _ _ rfl).trans rfl, (World.cell?_alloc_at _ _ _ _ rfl).trans rfl, (World.cell?_alloc_at _ _ _ _ rfl).trans rfl⟩
  have HU : Hid (Up w (w.alloc (.cells #[.slice p n1 c1, .slice q n2 c2, .int .i64 off, .int .i64 most] 38))) := Up.alloc _ _
  generalize w.alloc (.cells #[.slice p n1 c1, .slice q n2 c2, .int .i64 off, .int .i64 most] 38) = W at *
  generalize w.heap.size = bx at *
  go_loopw [3, 4] (fun v3 v4 wr => ∃ i s : Nat, i ≤ n2 ∧ v4 = .int .i64 i ∧ v3 = .int .i64 s ∧ i ≤ 4097 ∧ s < 4611686018427392001 ∧ W = wr ∧ Hid (∀ j, j < i → (C j).length ≤ s)) (fun _ v4 _ => n2 - (intOf v4).toNat)
  case atStart => exact ⟨0, 0, by omega, rfl, rfl, by omega, by omega, rfl, fun j hj => by omega⟩
  case round =>
    obtain ⟨i, s, hi, rfl, rfl, hi2, hs, hw, HI⟩ := hrel
    subst hw
    by_cases hgo : i < n2 ∧ i ≤ 4096 ∧ s ≤ 4096
    · obtain ⟨g1, g2, g3⟩ := hgo
      obtain ⟨qb, qo, qq, qc, rfl, s0, -⟩ := (HC.out.up HU.out) i g1
      have hl := HCL.out i g1
      have HI2 : Hid (∀ j, j < i + 1 → (C j).length ≤ s + (C i).length) := fun j hj => by
        by_cases e : j = i
        · subst e; omega
        · have := HI.out j (by omega); omega
      have g1' : (i : Int) < (n2 : Int) := by omega
      have g2' : (i : Int) ≤ 4096 := by omega
      have g3' : (s : Int) ≤ 4096 := by omega
      clear HI
      go_wp2
      go_roundw
      case rel => exact ⟨i + 1, s + (C i).length, by omega, by go_num, by go_num, by omega, by omega, by first | rfl | trivial, HI2⟩
      case measure => simp [intOf]; omega
    · have HE : Hid (s ≤ 4096 → n2 ≤ 4096 → ∀ j, j < n2 → (C j).length ≤ 4096) := fun a b j hj => by
        have : i = n2 := by omega
        have := HI.out j (by omega)
        omega
      have key : ∀ (b : Bool), (b = false → s ≤ 4096 ∧ n2 ≤ 4096 ∧ n1 ≤ 4096) → GrR w n1 n2 C (.returned (.bool b)) W := fun b hb => ⟨b, rfl, HU, fun h => ⟨(hb h).2.2, (hb h).2.1, HE.out (hb h).1 (hb h).2.1⟩⟩
      have hx : ¬ (i : Int) < (n2 : Int) ∨ ((i : Int) < (n2 : Int) ∧ ¬ (i : Int) ≤ 4096) ∨ ((i : Int) < (n2 : Int) ∧ (i : Int) ≤ 4096 ∧ ¬ (s : Int) ≤ 4096) := by omega
      have HK : Hid (∀ (b : Bool), (b = false → s ≤ 4096 ∧ n2 ≤ 4096 ∧ n1 ≤ 4096) → GrR w n1 n2 C (.returned (.bool b)) W) := key
      clear key hgo HI HE HC HCL
      by_cases z1 : (1048576 : Int) < most
      · by_cases y1 : (4096 : Int) < s
        · rcases hx with x1 | ⟨x1, x2⟩ | ⟨x1, x2, x3⟩ <;> first
          | (exfalso; omega)
          | (go_wp2; go_ret; exact HK.out _ (fun h => by cases h))
        · by_cases y2 : (4096 : Int) < n2
          · rcases hx with x1 | ⟨x1, x2⟩ | ⟨x1, x2, x3⟩ <;> first
            | (exfalso; omega)
            | (go_wp2; go_ret; exact HK.out _ (fun h => by cases h))
          · by_cases y3 : (4096 : Int) < n1
            · rcases hx with x1 | ⟨x1, x2⟩ | ⟨x1, x2, x3⟩ <;> first
              | (exfalso; omega)
              | (go_wp2; go_ret; exact HK.out _ (fun h => by cases h))
            · rcases hx with x1 | ⟨x1, x2⟩ | ⟨x1, x2, x3⟩ <;> first
              | (exfalso; omega)
              | (go_wp2; go_ret; exact HK.out _ (fun h => by omega))
      · by_cases y1 : (4096 : Int) < s
        · rcases hx with x1 | ⟨x1, x2⟩ | ⟨x1, x2, x3⟩ <;> first
          | (exfalso; omega)
          | (go_wp2; go_ret; exact HK.out _ (fun h => by cases h))
        · by_cases y2 : (4096 : Int) < n2
          · rcases hx with x1 | ⟨x1, x2⟩ | ⟨x1, x2, x3⟩ <;> first
            | (exfalso; omega)
            | (go_wp2; go_ret; exact HK.out _ (fun h => by cases h))
          · by_cases y3 : (4096 : Int) < n1
            · rcases hx with x1 | ⟨x1, x2⟩ | ⟨x1, x2, x3⟩ <;> first
              | (exfalso; omega)
              | (go_wp2; go_ret; exact HK.out _ (fun h => by cases h))
            · by_cases y4 : (131072 : Int) < most
              · rcases hx with x1 | ⟨x1, x2⟩ | ⟨x1, x2, x3⟩ <;> first
                | (exfalso; omega)
                | (go_wp2; go_ret; exact HK.out _ (fun h => by cases h))
              · by_cases y5 : (8192 : Int) < most
                · by_cases y6 : (64 : Int) < s
                  · rcases hx with x1 | ⟨x1, x2⟩ | ⟨x1, x2, x3⟩ <;> first
                    | (exfalso; omega)
                    | (go_wp2; go_ret; exact HK.out _ (fun h => by cases h))
                  · rcases hx with x1 | ⟨x1, x2⟩ | ⟨x1, x2, x3⟩ <;> first
                    | (exfalso; omega)
                    | (go_wp2; go_ret; exact HK.out _ (fun h => by omega))
                · rcases hx with x1 | ⟨x1, x2⟩ | ⟨x1, x2, x3⟩ <;> first
                  | (exfalso; omega)
                  | (go_wp2; go_ret; exact HK.out _ (fun h => by omega))
end Go.Proofs.Ytijfmaepoamkgaa

/- libraryref01.Join over any slice of texts; libraryref07: Plain. -/
import Derived.Test.YtjajihemcaihmaaDoorR07D
namespace Go.Proofs.YtjajihemcaihmaaDoor
open Go.RowKit Go.PlainAid

/-- The first k texts with these bytes between them. -/
def joinK (c : List UInt8) (L : List (List UInt8)) : Nat → List UInt8
  | 0 => []
  | k + 1 => if k = 0 then L.getD 0 [] else joinK c L k ++ c ++ L.getD k []
theorem joinK_le (c : List UInt8) (L : List (List UInt8)) (hc : c.length ≤ 1000) (hL : ∀ i, (L.getD i []).length ≤ 1000000) : ∀ k, (joinK c L k).length ≤ k * 1001000
  | 0 => Nat.le_refl _
  | k + 1 => by
    have h := joinK_le c L hc hL k
    have h0 := hL 0
    have hk := hL k
    rw [joinK]
    by_cases h1 : k = 0
    · rw [if_pos h1]; omega
    · rw [if_neg h1, List.length_append, List.length_append]; omega
def plainL (subs : List Sub) (codes : List UInt8) : List UInt8 := joinK [32] (allL subs codes) (allL subs codes).length

set_option maxHeartbeats 8000000 in
theorem refJoin_any (v : Value) (L : List (List UInt8)) (c : List UInt8) (w : World) (hv : BL v L w) (hc : c.length ≤ 1000) (hL : ∀ i, (L.getD i []).length ≤ 1000000) (hn : L.length ≤ 1000) :
    Calls Tryd.prog 42 #[v, .string (S c)] w fun e w' => e = .returned (.string (S (joinK c L L.length))) ∧ w' = w := by
  obtain ⟨a, cap, rfl, hcap, hmax, _, hcell⟩ := hv
  unfold maxLen at hmax
  obtain ⟨n, hnn⟩ : ∃ n, L.length = n := ⟨_, rfl⟩
  have HCell := Lib.hid hcell
  have HLe := Lib.hid (joinK_le c L hc hL)
  have HL := Lib.hid hL
  rw [hnn] at hcap hn ⊢
  have HN := Lib.hid hnn
  have hcs := S_size c
  clear hcell hnn hL
  go_enter Tryd.func42, Tryd.ntmps42
  go_wp2
  go_loop [5, 6] (fun o i => ∃ k : Nat, k ≤ n ∧ i = .int .i64 (k : Int) ∧ o = .string (S (joinK c L k))) (fun _ i => n - (intOf i).toNat)
  case atStart => exact ⟨0, Nat.zero_le _, rfl, rfl⟩
  case round =>
    obtain ⟨k, hk, rfl, rfl⟩ := hrel
    by_cases hkn : k < n
    · obtain ⟨g, o, rfl, hg, c0⟩ := HCell.out k (by rw [HN.out]; exact hkn)
      have c1 : w.cell? ⟨g, o + k, none⟩ = some (.string (S (L.getD k []))) := c0
      clear c0
      have i1 : (0 : Int) ≤ (k : Int) := by omega
      have i2 : (k : Int) < (n : Int) := by omega
      have hb1 := HLe.out k
      have hb2 := HL.out k
      have HJ := Lib.hid (show joinK c L (k + 1) = if k = 0 then L.getD 0 [] else joinK c L k ++ c ++ L.getD k [] from rfl)
      have hj0 : k = 0 → joinK c L k = [] := fun h => by rw [h]; rfl
      have hz0 : k = 0 → L.getD 0 [] = L.getD k [] := fun h => by rw [h]
      have HJ0 := Lib.hid hj0
      have HZ0 := Lib.hid hz0
      clear hj0 hz0
      rw [← S_size] at hb1 hb2
      have HA1 := Lib.hid (S_append (joinK c L k) c)
      have HA2 := Lib.hid (S_append (joinK c L k ++ c) (L.getD k []))
      have HA3 := Lib.hid (S_append (joinK c L k) (L.getD k []))
      generalize L.getD k [] = x at *
      by_cases hk0 : k = 0
      · have HK := Lib.hid hk0
        have d0 : ¬ (0 < k) := by omega
        clear hk0
        go_wp2
        go_round
        case rel =>
          refine ⟨k + 1, by omega, by go_num, ?_⟩
          rw [HJ.out, if_pos HK.out, HA3.out, HJ0.out HK.out, HZ0.out HK.out, List.nil_append]
        case measure => simp [intOf]; omega
      · have d0 : 0 < k := by omega
        go_wp2
        go_round
        case rel =>
          refine ⟨k + 1, by omega, by go_num, ?_⟩
          rw [HJ.out, if_neg hk0, ← HA2.out, ← HA1.out]
        case measure => simp [intOf]; omega
    · obtain rfl : k = n := by omega
      go_wp2
      go_ret
      exact ⟨rfl, rfl⟩

set_option maxHeartbeats 4000000 in
theorem refPlain_any (f : Fld) (u : Value) (w : World) (hu : QL u f.subs w) (codes : List UInt8) (hz : codes.length ≤ 1000000) (hs : f.subs.length ≤ 1000) (hL : ∀ i, ((allL f.subs codes).getD i []).length ≤ 1000000) :
    Calls Tryd.prog 21 #[FV f u, .string (S codes)] w fun e w' => e = .returned (.string (S (plainL f.subs codes))) ∧ Below w.heap.size w w' := by
  have b0 : Below w.heap.size w (w.alloc (.cells #[.string (S f.tag), .string (S f.ind), u, .int .i64 f.auth] 24)) := (Below.refl w.heap.size w).alloc (Nat.le_refl _) _
  have cA := Lib.hid (refAll_any f u _ (hu.after b0) codes hz (by omega))
  have hl := allL_length f.subs codes
  have cJ := Lib.hid (fun v W hv => refJoin_any v (allL f.subs codes) [32] W hv (by decide) hL (by omega))
  have HB0 := Lib.hid b0
  have e32 : (⟨#[32]⟩ : ByteArray) = S [32] := rfl
  rw [← e32] at cJ
  unfold plainL
  unfold FV at cA ⊢
  generalize allL f.subs codes = M at *
  generalize S codes = cs at *
  clear hu hz hs hL hl b0 e32
  go_enter Tryd.func21, Tryd.ntmps21
  go_wp2_with fail
  refine (cA.out).mono ?_
  rintro e w5 ⟨v, rfl, hv, hb⟩
  go_wp2_with fail
  refine (cJ.out v _ hv).mono ?_
  rintro e w6 ⟨rfl, rfl⟩
  have HB := Lib.hid (HB0.out.trans (hb.mono HB0.out.size))
  clear hb hv
  go_wp2
  go_ret
  exact ⟨rfl, HB.out⟩
end Go.Proofs.YtjajihemcaihmaaDoor

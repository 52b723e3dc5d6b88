/- Package field: Get. -/
import Derived.Test.YtjajihemcaihmaaGreatDoorFB07
import Derived.Test.YtjajihemcaihmaaGreatDoorRegInv
namespace Go.Proofs.YtjajihemcaihmaaGreatDoor
open Go.RowKit Go.PlainAid

/-- What yields a slice of subfields, a function value, and so on. -/
def SP.ql (v : Value) (L : List Sub) : SP := ⟨fun x w => x = v ∧ QL v L w, fun _ _ _ h b => ⟨h.1, h.2.after b⟩⟩
def SP.cl (c : UInt8) : SP := ⟨fun x w => CL c x w, fun _ _ _ h b => h.after b⟩

set_option maxHeartbeats 8000000 in
set_option maxRecDepth 100000 in
theorem getHit_any (f : Fld) (u : Value) (w : World) (hu : QL u f.subs w) (c : UInt8) (k : Nat) (hk : k < f.subs.length) (hj : ∀ j, j < k → (f.subs.getD j sub0).1 ≠ c) (he : (f.subs.getD k sub0).1 = c) :
    Calls Tryz.prog 9 #[FV f u, .int .u8 (c.toNat : Int)] w fun e w' => e = .returned (.tuple #[.string (S (f.subs.getD k sub0).2), .bool true]) ∧ Below w.heap.size w w' := by
  obtain ⟨a, cap, rfl, hcap, hmax⟩ := hu.length
  obtain ⟨val, hval⟩ : ∃ val, (f.subs.getD k sub0).2 = val := ⟨_, rfl⟩
  rw [hval]
  have HV := Lib.hid hval
  clear hval
  have cC := Lib.hid (fun W => coded_any c W)
  have cI := Lib.hid (fun W (h : QL (.slice a f.subs.length cap) f.subs W) fv (hf : CL c fv W) => index_hit f.subs _ fv W h c hf k hk hj he)
  have b0 := (Below.refl w.heap.size w).alloc (Nat.le_refl _) (.cells #[.string (S f.tag), .string (S f.ind), .slice a f.subs.length cap, .int .i64 f.auth] 25)
  obtain ⟨W0, hW0⟩ : ∃ W0, w.alloc (.cells #[.string (S f.tag), .string (S f.ind), .slice a f.subs.length cap, .int .i64 f.auth] 25) = W0 := ⟨_, rfl⟩
  have k2 : W0.cell? ⟨w.heap.size, 2, none⟩ = some (.slice a f.subs.length cap) := by rw [← hW0]; simp
  rw [hW0] at b0
  have hlt : w.heap.size < W0.heap.size := by rw [← hW0]; simp
  have hu0 := hu.after b0
  unfold FV
  have HW0 := Lib.hid hW0
  clear hW0 hj he hu
  have HCell := Lib.hid (fun (W : World) (h : Below W0.heap.size W0 W) => (h.cell (p := ⟨w.heap.size, 2, none⟩) hlt).trans k2)
  have HQ := Lib.hid (fun (W : World) (h : Below W0.heap.size W0 W) => hu0.after h)
  clear hu0 k2
  go_enter Tryz.func9, Tryz.ntmps9
  go_wp2
  rw [HW0.out]
  apply wp_region_inv (V := [.eq (.pointer (some ⟨w.heap.size, 2, none⟩)), .ql (.slice a f.subs.length cap) f.subs, .eq (.int .u8 (c.toNat : Int)), .cl c, .eq (.int .i64 (k : Int)), .eq (.int .i64 (k : Int))])
  case hm => kernel_rfl
  case hd => kernel_rfl
  case hb => kernel_rfl
  case hA =>
    intro vs
    simp only [puts, Act.put, List.setIfInBounds_toArray, List.set_cons_zero, List.set_cons_succ]
    exact rfl
  case hob =>
    refine Obs.cons _ _ _ _ _ _ ?o0 (Obs.cons _ _ _ _ _ _ ?o1 (Obs.cons _ _ _ _ _ _ ?o2 (Obs.cons _ _ _ _ _ _ ?o3 (Obs.cons _ _ _ _ _ _ ?o4 (Obs.cons _ _ _ _ _ _ ?o5 (Obs.nil _ _ _ _ _ _))))))
    case o0 =>
      intro vs W hw hd K hK
      go_simp
      exact hK.out _ _ rfl (Below.refl _ _)
    case o1 =>
      intro vs W hw hd K hK
      have h0 : vs 0 = _ := hd 0 (by kernel_rfl)
      have g0 := HCell.out W hw
      simp only [Nat.reduceAdd, h0] at hK ⊢
      go_simp
      exact hK.out _ _ ⟨rfl, HQ.out W hw⟩ (Below.refl _ _)
    case o2 =>
      intro vs W hw hd K hK
      go_simp
      exact hK.out _ _ rfl (Below.refl _ _)
    case o3 =>
      intro vs W hw hd K hK
      have h0 : vs 2 = _ := hd 2 (by kernel_rfl)
      simp only [Nat.reduceAdd, h0] at hK ⊢
      go_simp
      refine (cC.out W).mono ?_
      rintro e W' ⟨v, rfl, h1, h2⟩
      exact hK.out _ _ h1 h2
    case o4 =>
      intro vs W hw hd K hK
      have h1 := (show vs 1 = _ ∧ QL _ _ W from hd 1 (by kernel_rfl))
      have h3 : CL c (vs 3) W := hd 3 (by kernel_rfl)
      simp only [Nat.reduceAdd, h1.1] at hK ⊢
      go_simp
      refine (cI.out W h1.2 _ h3).mono ?_
      rintro e W' ⟨rfl, h2⟩
      exact hK.out _ _ rfl h2
    case o5 =>
      intro vs W hw hd K hK
      have h0 : vs 4 = _ := hd 4 (by kernel_rfl)
      simp only [Nat.reduceAdd, h0] at hK ⊢
      go_simp
      exact hK.out _ _ rfl (Below.refl _ _)
  case hfin =>
    intro vs W hw hv
    have h5 : vs 5 = .int .i64 (k : Int) := hv 5 (by decide)
    simp only [Nat.reduceAdd, h5]
    obtain ⟨ad, cap', hq, hc1, hc2, hn, hcell⟩ := HQ.out W hw
    simp only [Value.slice.injEq] at hq
    obtain ⟨rfl, _, rfl⟩ := hq
    obtain ⟨g, o, rfl, hg, c1, c2⟩ := hcell k hk
    have g0 := HCell.out W hw
    have i1 : (0 : Int) ≤ (k : Int) := by omega
    have i2 : (k : Int) < (f.subs.length : Int) := by omega
    have b1 := b0.trans (hw.mono b0.size)
    clear hcell HCell HQ hn hv cI
    rw [HV.out] at c2
    clear HV
    go_wp2
    go_ret2
    exact ⟨rfl, b1⟩

set_option maxHeartbeats 8000000 in
set_option maxRecDepth 100000 in
theorem getMiss_any (f : Fld) (u : Value) (w : World) (hu : QL u f.subs w) (c : UInt8) (hj : ∀ j, j < f.subs.length → (f.subs.getD j sub0).1 ≠ c) :
    Calls Tryz.prog 9 #[FV f u, .int .u8 (c.toNat : Int)] w fun e w' => e = .returned (.tuple #[.string (S []), .bool false]) ∧ Below w.heap.size w w' := by
  obtain ⟨a, cap, rfl, hcap, hmax⟩ := hu.length
  have cC := Lib.hid (fun W => coded_any c W)
  have cI := Lib.hid (fun W (h : QL (.slice a f.subs.length cap) f.subs W) fv (hf : CL c fv W) => index_miss f.subs _ fv W h c hf hj)
  have b0 := (Below.refl w.heap.size w).alloc (Nat.le_refl _) (.cells #[.string (S f.tag), .string (S f.ind), .slice a f.subs.length cap, .int .i64 f.auth] 25)
  obtain ⟨W0, hW0⟩ : ∃ W0, w.alloc (.cells #[.string (S f.tag), .string (S f.ind), .slice a f.subs.length cap, .int .i64 f.auth] 25) = W0 := ⟨_, rfl⟩
  have k2 : W0.cell? ⟨w.heap.size, 2, none⟩ = some (.slice a f.subs.length cap) := by rw [← hW0]; simp
  rw [hW0] at b0
  have hlt : w.heap.size < W0.heap.size := by rw [← hW0]; simp
  have hu0 := hu.after b0
  unfold FV
  have HW0 := Lib.hid hW0
  clear hW0 hj hu
  have HCell := Lib.hid (fun (W : World) (h : Below W0.heap.size W0 W) => (h.cell (p := ⟨w.heap.size, 2, none⟩) hlt).trans k2)
  have HQ := Lib.hid (fun (W : World) (h : Below W0.heap.size W0 W) => hu0.after h)
  clear hu0 k2
  go_enter Tryz.func9, Tryz.ntmps9
  go_wp2
  rw [HW0.out]
  apply wp_region_inv (V := [.eq (.pointer (some ⟨w.heap.size, 2, none⟩)), .ql (.slice a f.subs.length cap) f.subs, .eq (.int .u8 (c.toNat : Int)), .cl c, .eq (.int .i64 (-1)), .eq (.int .i64 (-1))])
  case hm => kernel_rfl
  case hd => kernel_rfl
  case hb => kernel_rfl
  case hA =>
    intro vs
    simp only [puts, Act.put, List.setIfInBounds_toArray, List.set_cons_zero, List.set_cons_succ]
    exact rfl
  case hob =>
    refine Obs.cons _ _ _ _ _ _ ?o0 (Obs.cons _ _ _ _ _ _ ?o1 (Obs.cons _ _ _ _ _ _ ?o2 (Obs.cons _ _ _ _ _ _ ?o3 (Obs.cons _ _ _ _ _ _ ?o4 (Obs.cons _ _ _ _ _ _ ?o5 (Obs.nil _ _ _ _ _ _))))))
    case o0 =>
      intro vs W hw hd K hK
      go_simp
      exact hK.out _ _ rfl (Below.refl _ _)
    case o1 =>
      intro vs W hw hd K hK
      have h0 : vs 0 = _ := hd 0 (by kernel_rfl)
      have g0 := HCell.out W hw
      simp only [Nat.reduceAdd, h0] at hK ⊢
      go_simp
      exact hK.out _ _ ⟨rfl, HQ.out W hw⟩ (Below.refl _ _)
    case o2 =>
      intro vs W hw hd K hK
      go_simp
      exact hK.out _ _ rfl (Below.refl _ _)
    case o3 =>
      intro vs W hw hd K hK
      have h0 : vs 2 = _ := hd 2 (by kernel_rfl)
      simp only [Nat.reduceAdd, h0] at hK ⊢
      go_simp
      refine (cC.out W).mono ?_
      rintro e W' ⟨v, rfl, h1, h2⟩
      exact hK.out _ _ h1 h2
    case o4 =>
      intro vs W hw hd K hK
      have h1 := (show vs 1 = _ ∧ QL _ _ W from hd 1 (by kernel_rfl))
      have h3 : CL c (vs 3) W := hd 3 (by kernel_rfl)
      simp only [Nat.reduceAdd, h1.1] at hK ⊢
      go_simp
      refine (cI.out W h1.2 _ h3).mono ?_
      rintro e W' ⟨rfl, h2⟩
      exact hK.out _ _ rfl h2
    case o5 =>
      intro vs W hw hd K hK
      have h0 : vs 4 = _ := hd 4 (by kernel_rfl)
      simp only [Nat.reduceAdd, h0] at hK ⊢
      go_simp
      exact hK.out _ _ rfl (Below.refl _ _)
  case hfin =>
    intro vs W hw hv
    have h5 : vs 5 = .int .i64 (-1) := hv 5 (by decide)
    simp only [Nat.reduceAdd, h5]
    have b1 := b0.trans (hw.mono b0.size)
    clear HCell HQ hv cI
    go_wp2
    go_ret2
    exact ⟨rfl, b1⟩

/-- The first place of a code, or none. -/
theorem first_code (L : List Sub) (c : UInt8) : (∀ j, j < L.length → (L.getD j sub0).1 ≠ c) ∨ ∃ k, k < L.length ∧ (∀ j, j < k → (L.getD j sub0).1 ≠ c) ∧ (L.getD k sub0).1 = c := by
  rcases first_bad (fun i => !decide ((L.getD i sub0).1 = c)) L.length with h | ⟨j, hj, h1, h2⟩
  · exact .inl fun j hj => by simpa using h j hj
  · exact .inr ⟨j, hj, fun i hi => by simpa using h1 i hi, by simpa using h2⟩
theorem fGet_any (f : Fld) (u : Value) (w : World) (hu : QL u f.subs w) (c : UInt8) (r : List UInt8) (b : Bool) (hb : getL f.subs c = (r, b)) :
    Calls Tryz.prog 9 #[FV f u, .int .u8 (c.toNat : Int)] w fun e w' => e = .returned (.tuple #[.string (S r), .bool b]) ∧ Below w.heap.size w w' := by
  rcases first_code f.subs c with h | ⟨k, hk, hj, he⟩
  · rw [getL_miss f.subs c h] at hb
    obtain ⟨rfl, rfl⟩ := Prod.mk.injEq .. ▸ hb
    exact getMiss_any f u w hu c h
  · rw [getL_hit f.subs c k hk hj he] at hb
    obtain ⟨rfl, rfl⟩ := Prod.mk.injEq .. ▸ hb
    exact getHit_any f u w hu c k hk hj he
end Go.Proofs.YtjajihemcaihmaaGreatDoor

/- The statement RecordOrders of layer 8 over this translation: it returns true. -/
import Derived.Test.YtcnjjdbpcobolaaGreatDoorQ32
import Derived.Test.YtcnjjdbpcobolaaGreatDoorQ03
import Derived.Test.YtcnjjdbpcobolaaGreatDoorQ23
import Derived.Test.YtcnjjdbpcobolaaGreatDoorQ30
import Derived.Test.YtcnjjdbpcobolaaGreatDoorQ17
import Derived.Test.YtcnjjdbpcobolaaGreatDoorQ34
import Derived.Deep.DeepCutAuto
namespace Go.Proofs.YtcnjjdbpcobolaaGreatDoor
open Go.RowKit Go.PlainAid

def SP.rn (N : List Fld) (vi vv vk : Int) (lg : ByteArray) : SP := ⟨fun x w => ∃ v, x = .agg #[.int .i64 vi, .int .i64 vv, .int .i64 vk, .string lg, v] ∧ FL v N w, fun _ _ _ h b => by
  obtain ⟨v, h1, h2⟩ := h
  exact ⟨v, h1, h2.after b⟩⟩
theorem keep_right (r : Rec) (N : List Fld) (hk : Keep Fld.tag N r.fields) (h : rightRI r = 0) : rightRI { r with fields := N } = 0 := by
  have ha := right_all r h
  unfold rightRI at h ⊢
  dsimp only at h ⊢
  rw [hk.len]
  split at h
  · cases h
  split at h
  · cases h
  split at h
  · cases h
  split at h
  · cases h
  split at h
  · cases h
  rw [if_neg ‹_›, if_neg ‹_›, if_neg ‹_›, if_neg ‹_›, if_neg ‹_›]
  exact (firstFE_zero N).2 fun f hf => ha f ((hk.mem f).1 hf)
theorem keep_fields (L N : List Fld) (hk : Keep Fld.tag N L) (ht : ∀ f ∈ L, f.tag.length = 3) (p : List UInt8) (hp : p.length = 3) : fieldsL N p = fieldsL L p := by
  have key : ∀ M : List Fld, (∀ f ∈ M, f.tag.length = 3) → fieldsL M p = pick Fld.tag p M := fun M hM => by
    unfold fieldsL pick
    apply List.filter_congr
    intro f hf
    rw [← prefix_take, hp, ← hM f hf, List.take_length]
  rw [key L ht, key N (fun f hf => ht f ((hk.mem f).1 hf)), hk.same]
theorem S_less8 (a b : List UInt8) : Op.bytesLess (S a).toList (S b).toList = Op.bytesLess a b := by
  have h : ∀ l, (S l).toList = l := fun l => by rw [ByteArray.toList_eq]; rfl
  rw [h, h]
theorem asc_less (N : List Fld) (h : Asc Fld.tag N) (m : Nat) (hm : m + 1 < N.length) : Op.bytesLess (N.getD (m + 1) fd0).tag (N.getD m fd0).tag = false := by
  have h1 := (List.pairwise_iff_getElem.1 h) m (m + 1) (by omega) hm (by omega)
  rw [List.getD_eq_getElem?_getD, List.getD_eq_getElem?_getD, List.getElem?_eq_getElem hm, List.getElem?_eq_getElem (show m < N.length by omega)]
  show Op.bytesLess N[m + 1].tag N[m].tag = false
  rw [cb_less, decide_eq_false_iff_not, cb_anti]
  unfold kc at h1
  omega

set_option maxHeartbeats 3200000 in
set_option maxRecDepth 100000 in
theorem lawOrders_any (r : Rec) (u : Value) (w : World) (hE : EnvR w) (hu : FL u r.fields w) :
    Calls Tryz.prog 9 #[RV r u] w fun e w' => e = .returned (.bool true) ∧ Below w.heap.size w w' := by
  have c0 := Lib.hid (fun W hE => alive_any W hE)
  have b0 := (Below.refl w.heap.size w).alloc (Nat.le_refl _) (.cells #[.int .i64 r.id, .int .i64 r.ver, .int .i64 r.kind, .string (S r.lang), u] 24)
  have hX := RB.new hu
  obtain ⟨vb, hvb⟩ : ∃ vb, (smallRB r && decide (rightRI r = 0)) = vb := ⟨_, rfl⟩
  have cV := Lib.hid (fun W h => lvalid_any r u W h vb hvb)
  have hE0 := hE.after b0
  obtain ⟨a, cap, rfl, _, _⟩ := hu.length
  obtain ⟨W0, hW0⟩ : ∃ W0, w.alloc (.cells #[.int .i64 r.id, .int .i64 r.ver, .int .i64 r.kind, .string (S r.lang), .slice a r.fields.length cap] 24) = W0 := ⟨_, rfl⟩
  rw [hW0] at b0 hX hE0
  have HW0 := Lib.hid hW0
  clear hW0 hE hu
  unfold RV at cV ⊢
  obtain ⟨lg, hlg⟩ : ∃ lg, S r.lang = lg := ⟨_, rfl⟩
  obtain ⟨n, hn⟩ : ∃ n, r.fields.length = n := ⟨_, rfl⟩
  rw [hlg, hn] at HW0 cV ⊢
  rw [hn] at hX
  obtain ⟨k0, k1, k2, k3, k4⟩ := hX.cells
  rw [hlg] at k3
  cases vb
  · clear hlg hn hvb
    go_enter Tryz.func9, Tryz.ntmps9
    go_upto_region 1 with fail
    rw [HW0.out]
    go_wp2_with fail
    refine (cV.out _ hX.q).mono ?_
    rintro e w1 ⟨rfl, c⟩
    have b1 := b0.trans (c.mono b0.size)
    have hE1 := hE0.after c
    clear c b0 k0 k1 k2 k3 k4
    go_wp2_with fail
    refine (c0.out _ hE1).mono ?_
    rintro e w2 ⟨rfl, c⟩
    have b2 := b1.trans (c.mono b1.size)
    clear c b1
    go_wp2
    go_ret
    exact ⟨rfl, b2⟩
  have hsm : smallRB r = true := by
    cases h : smallRB r
    · rw [h] at hvb; cases hvb
    · rfl
  obtain ⟨hs1, hs2⟩ := smallR_le r hsm
  have hrt : rightRI r = 0 := by
    rw [hsm, Bool.true_and, decide_eq_true_iff] at hvb
    exact hvb
  have htg := right_tags r hrt
  have hlz : r.lang.length ≤ maxLen := by
    have hl : langB r.lang = true := by
      unfold rightRI at hrt
      split at hrt
      · cases hrt
      split at hrt
      · cases hrt
      split at hrt
      · cases hrt
      split at hrt
      · cases hrt
      rename_i hq
      cases h : langB r.lang
      · exact absurd h hq
      · rfl
    unfold langB at hl
    simp only [Bool.and_eq_true, decide_eq_true_eq] at hl
    rw [hl.1.1.1]
    decide
  have hn100 : n ≤ 100000 := by omega
  have c3 := Lib.hid (fun W (h : FL (.slice a r.fields.length cap) r.fields W) => pSorted_any r _ W h (by omega))
  have cF20 := Lib.hid (fun p W (h : FL (.slice a r.fields.length cap) r.fields W) => pFields_any r _ W h p (by omega))
  unfold RV at c3 cF20
  dsimp only at c3
  rw [hlg, hn] at c3 cF20
  go_enter Tryz.func9, Tryz.ntmps9
  go_upto_region 1 with fail
  rw [HW0.out]
  go_wp2_with fail
  refine (cV.out _ hX.q).mono ?_
  rintro e w1 ⟨rfl, c⟩
  have b1' := b0.trans (c.mono b0.size)
  have hX1 := hX.after c
  have hE1 := hE0.after c
  clear c b0 hX hE0 k0 k1 k2 k3 k4 cV HW0
  obtain ⟨k0, k1, k2, k3, k4⟩ := hX1.cells
  rw [hlg] at k3
  go_wp2_with fail
  refine (c3.out _ hX1.q).mono ?_
  rintro e w2 ⟨v3, N, rfl, hst, hv3, c⟩
  have hlen : N.length = n := hst.keep.len.trans hn
  have hrq := keep_right r N hst.keep hrt
  have htq : ∀ f ∈ N, f.tag.length = 3 := fun f hf => htg f ((hst.keep.mem f).1 hf)
  obtain ⟨a3, cq, rfl, _, _⟩ := hv3.length
  have hS := RB.new (r := { r with fields := N }) hv3
  have hal := (Below.refl w2.heap.size w2).alloc (Nat.le_refl _) (.cells #[.int .i64 r.id, .int .i64 r.ver, .int .i64 r.kind, .string (S r.lang), .slice a3 N.length cq] 24)
  have b2 := (b1'.trans (c.mono b1'.size)).trans (hal.mono (b1'.trans (c.mono b1'.size)).size)
  have hX2 := (hX1.after c).after hal
  have hE2 := (hE1.after c).after hal
  have cR := Lib.hid (fun W hE (h : FL (.slice a3 N.length cq) N W) => pRight_any { r with fields := N } _ W hE h hlz (fun i hi j hj => by
    have hm : N.getD i fd0 ∈ N := by rw [List.getD_eq_getElem?_getD, List.getElem?_eq_getElem hi]; exact List.getElem_mem hi
    exact Nat.le_trans ((hs2 _ ((hst.keep.mem _).1 hm)).2 j) (by decide)) 0 hrq)
  have cS : RowKit.Hid (∀ W (h : FL (.slice a3 N.length cq) N W), Calls Tryz.prog 25 #[RV { r with fields := N } (.slice a3 N.length cq)] W fun e w' => ∃ v, e = .returned (RV { r with fields := N } v) ∧ FL v N w' ∧ Below W.heap.size W w') := fun W h => by
    refine (pSorted_any { r with fields := N } _ W h (by show N.length ≤ _; omega)).mono ?_
    rintro e w' ⟨v, N', h1, h2, h3, h4⟩
    obtain rfl : N' = N := h2.one (Stab.refl hst.asc)
    exact ⟨v, h1, h3, h4⟩
  have cE := Lib.hid (fun y W (hy : FL y N W) (h : FL (.slice a3 N.length cq) N W) => pSame_any { r with fields := N } { r with fields := N } y _ W hy h true ((sameRB_iff _ _).2 rfl))
  have cF10 := Lib.hid (fun p W (h : FL (.slice a3 N.length cq) N W) => pFields_any { r with fields := N } _ W h p (by show N.length ≤ _; omega))
  have hkf := fun p hp => keep_fields r.fields N hst.keep htg p hp
  have HKF := Lib.hid hkf
  have HAL := Lib.hid (fun m hm => asc_less N hst.asc m hm)
  have HTQ := Lib.hid (fun k (hk : k < N.length) => htq (N.getD k fd0) (by rw [List.getD_eq_getElem?_getD, List.getElem?_eq_getElem hk]; exact List.getElem_mem hk))
  clear hkf htq hrq hst htg hrt hsm hs1 hs2 hlz hvb c3
  unfold RV at cR cS cE cF10
  dsimp only at cR cS cE cF10 hS
  rw [hlg] at cR cS cE cF10 hal hX2 hE2 b2 hS
  rw [hlen] at cR cS cE cF10 hal hX2 hE2 b2 hS ⊢
  rw [hlen] at HAL HTQ
  have HLen := Lib.hid hlen
  obtain ⟨W2, hW2⟩ : ∃ W2, w2.alloc (.cells #[.int .i64 r.id, .int .i64 r.ver, .int .i64 r.kind, .string lg, .slice a3 n cq] 24) = W2 := ⟨_, rfl⟩
  rw [hW2] at hX2 hE2 b2 hS
  have HW2 := Lib.hid hW2
  have HXc : RowKit.Hid (∀ W, Below W2.heap.size W2 W → W.cell? ⟨w.heap.size, 0, none⟩ = some (.int .i64 r.id) ∧ W.cell? ⟨w.heap.size, 1, none⟩ = some (.int .i64 r.ver) ∧ W.cell? ⟨w.heap.size, 2, none⟩ = some (.int .i64 r.kind) ∧ W.cell? ⟨w.heap.size, 3, none⟩ = some (.string lg) ∧ W.cell? ⟨w.heap.size, 4, none⟩ = some (.slice a n cap)) := by
    intro W h
    have := (hX2.after h).cells
    rwa [hlg] at this
  obtain ⟨b3, hb3⟩ : ∃ b3, w2.heap.size = b3 := ⟨_, rfl⟩
  rw [hb3] at hS
  have HB3 := Lib.hid hb3
  have HSc : RowKit.Hid (∀ W, Below W2.heap.size W2 W → W.cell? ⟨b3, 0, none⟩ = some (.int .i64 r.id) ∧ W.cell? ⟨b3, 1, none⟩ = some (.int .i64 r.ver) ∧ W.cell? ⟨b3, 2, none⟩ = some (.int .i64 r.kind) ∧ W.cell? ⟨b3, 3, none⟩ = some (.string lg) ∧ W.cell? ⟨b3, 4, none⟩ = some (.slice a3 n cq)) := by
    intro W h
    have := (hS.after h).cells
    dsimp only at this
    rwa [hlg] at this
  have HSq : RowKit.Hid (∀ W, Below W2.heap.size W2 W → FL (.slice a3 n cq) N W) := fun W h => (hS.after h).q
  have HX := Lib.hid (fun W (h : Below W2.heap.size W2 W) => (hX2.after h).q)
  have HEn := Lib.hid (fun W (h : Below W2.heap.size W2 W) => hE2.after h)
  have B2 := Lib.hid b2
  have HRef := Lib.hid (Below.refl W2.heap.size W2)
  have HNn := Lib.hid hn
  clear hb3 hW2 hX2 hE2 b2 hS hal hlen hlg hn k0 k1 k2 k3 k4 hX1 hE1 b1' c hv3
  go_upto_region 4 with fail
  rw [HW2.out, HB3.out]
  clear HW2 HB3
  apply wp_region_inv (V := [.eq (.pointer (some ⟨b3, 4, none⟩)), .eq (.slice a3 n cq), .eq (.int .i64 (n : Int)), .eq (.pointer (some ⟨w.heap.size, 4, none⟩)), .eq (.slice a n cap), .eq (.int .i64 (n : Int)), .eq (.bool false), .eq (.bool false), .eq (.agg #[.int .i64 r.id, .int .i64 r.ver, .int .i64 r.kind, .string lg, .slice a3 n cq]), .eq (.int .i64 0), .eq (.bool false), .eq (.bool false), .eq (.bool false), .eq (.agg #[.int .i64 r.id, .int .i64 r.ver, .int .i64 r.kind, .string lg, .slice a3 n cq]), .rn N r.id r.ver r.kind lg, .eq (.agg #[.int .i64 r.id, .int .i64 r.ver, .int .i64 r.kind, .string lg, .slice a3 n cq]), .eq (.bool true), .eq (.bool false), .eq (.bool false)])
  case hm => kernel_rfl
  case hd => kernel_rfl
  case hb => kernel_rfl
  case hA =>
    intro vs
    simp only [puts, Act.put, List.setIfInBounds_toArray, List.set_cons_zero, List.set_cons_succ]
    exact rfl
  case hob =>
    refine Obs.cons _ _ _ _ _ _ ?o0 (Obs.cons _ _ _ _ _ _ ?o1 (Obs.cons _ _ _ _ _ _ ?o2 (Obs.cons _ _ _ _ _ _ ?o3 (Obs.cons _ _ _ _ _ _ ?o4 (Obs.cons _ _ _ _ _ _ ?o5 (Obs.cons _ _ _ _ _ _ ?o6 (Obs.cons _ _ _ _ _ _ ?o7 (Obs.cons _ _ _ _ _ _ ?o8 (Obs.cons _ _ _ _ _ _ ?o9 (Obs.cons _ _ _ _ _ _ ?o10 (Obs.cons _ _ _ _ _ _ ?o11 (Obs.cons _ _ _ _ _ _ ?o12 (Obs.cons _ _ _ _ _ _ ?o13 (Obs.cons _ _ _ _ _ _ ?o14 (Obs.cons _ _ _ _ _ _ ?o15 (Obs.cons _ _ _ _ _ _ ?o16 (Obs.cons _ _ _ _ _ _ ?o17 (Obs.cons _ _ _ _ _ _ ?o18 (Obs.nil _ _ _ _ _ _)))))))))))))))))))
    case o0 =>
      intro vs W hw hd K hK
      go_simp
      exact hK.out _ _ rfl (Below.refl _ _)
    case o1 =>
      intro vs W hw hd K hK
      have h0 : vs 0 = .pointer (some ⟨b3, 4, none⟩) := hd 0 (by kernel_rfl)
      obtain ⟨k0, k1, k2, k3, k4⟩ := HSc.out W hw
      simp only [Nat.reduceAdd, h0] at hK ⊢
      go_simp
      exact hK.out _ _ rfl (Below.refl _ _)
    case o2 =>
      intro vs W hw hd K hK
      have h1 : vs 1 = .slice a3 n cq := hd 1 (by kernel_rfl)
      simp only [Nat.reduceAdd, h1] at hK ⊢
      go_simp
      exact hK.out _ _ rfl (Below.refl _ _)
    case o3 =>
      intro vs W hw hd K hK
      go_simp
      exact hK.out _ _ rfl (Below.refl _ _)
    case o4 =>
      intro vs W hw hd K hK
      have h3 : vs 3 = .pointer (some ⟨w.heap.size, 4, none⟩) := hd 3 (by kernel_rfl)
      obtain ⟨k0, k1, k2, k3, k4⟩ := HXc.out W hw
      simp only [Nat.reduceAdd, h3] at hK ⊢
      go_simp
      exact hK.out _ _ rfl (Below.refl _ _)
    case o5 =>
      intro vs W hw hd K hK
      have h4 : vs 4 = .slice a n cap := hd 4 (by kernel_rfl)
      simp only [Nat.reduceAdd, h4] at hK ⊢
      go_simp
      exact hK.out _ _ rfl (Below.refl _ _)
    case o6 =>
      intro vs W hw hd K hK
      have h2 : vs 2 = .int .i64 (n : Int) := hd 2 (by kernel_rfl)
      have h5 : vs 5 = .int .i64 (n : Int) := hd 5 (by kernel_rfl)
      simp only [Nat.reduceAdd, h2, h5] at hK ⊢
      go_simp
      exact hK.out _ _ rfl (Below.refl _ _)
    case o7 =>
      intro vs W hw hd K hK
      have h6 : vs 6 = .bool false := hd 6 (by kernel_rfl)
      simp only [Nat.reduceAdd, h6] at hK ⊢
      go_simp
      exact hK.out _ _ rfl (Below.refl _ _)
    case o8 =>
      intro vs W hw hd K hK
      have h7 : vs 7 = .bool false := hd 7 (by kernel_rfl)
      obtain ⟨k0, k1, k2, k3, k4⟩ := HSc.out W hw
      simp only [Nat.reduceAdd, h7] at hK ⊢
      go_simp
      exact hK.out _ _ rfl (Below.refl _ _)
    case o9 =>
      intro vs W hw hd K hK
      have h7 : vs 7 = .bool false := hd 7 (by kernel_rfl)
      have h8 : vs 8 = .agg #[.int .i64 r.id, .int .i64 r.ver, .int .i64 r.kind, .string lg, .slice a3 n cq] := hd 8 (by kernel_rfl)
      simp only [Nat.reduceAdd, h7, h8] at hK ⊢
      go_simp
      refine (cR.out W (HEn.out W hw).e (HSq.out W hw)).mono ?_
      rintro e W' ⟨rfl, hb'⟩
      exact hK.out _ _ rfl hb'
    case o10 =>
      intro vs W hw hd K hK
      have h7 : vs 7 = .bool false := hd 7 (by kernel_rfl)
      have h9 : vs 9 = .int .i64 0 := hd 9 (by kernel_rfl)
      simp only [Nat.reduceAdd, h7, h9] at hK ⊢
      go_simp
      exact hK.out _ _ rfl (Below.refl _ _)
    case o11 =>
      intro vs W hw hd K hK
      have h7 : vs 7 = .bool false := hd 7 (by kernel_rfl)
      have h10 : vs 10 = .bool false := hd 10 (by kernel_rfl)
      simp only [Nat.reduceAdd, h7, h10] at hK ⊢
      go_simp
      exact hK.out _ _ rfl (Below.refl _ _)
    case o12 =>
      intro vs W hw hd K hK
      have h11 : vs 11 = .bool false := hd 11 (by kernel_rfl)
      simp only [Nat.reduceAdd, h11] at hK ⊢
      go_simp
      exact hK.out _ _ rfl (Below.refl _ _)
    case o13 =>
      intro vs W hw hd K hK
      have h12 : vs 12 = .bool false := hd 12 (by kernel_rfl)
      obtain ⟨k0, k1, k2, k3, k4⟩ := HSc.out W hw
      simp only [Nat.reduceAdd, h12] at hK ⊢
      go_simp
      exact hK.out _ _ rfl (Below.refl _ _)
    case o14 =>
      intro vs W hw hd K hK
      have h12 : vs 12 = .bool false := hd 12 (by kernel_rfl)
      have h13 : vs 13 = .agg #[.int .i64 r.id, .int .i64 r.ver, .int .i64 r.kind, .string lg, .slice a3 n cq] := hd 13 (by kernel_rfl)
      simp only [Nat.reduceAdd, h12, h13] at hK ⊢
      go_simp
      refine (cS.out W (HSq.out W hw)).mono ?_
      rintro e W' ⟨v', rfl, hq', hb'⟩
      exact hK.out _ _ ⟨v', rfl, hq'⟩ hb'
    case o15 =>
      intro vs W hw hd K hK
      have h12 : vs 12 = .bool false := hd 12 (by kernel_rfl)
      obtain ⟨k0, k1, k2, k3, k4⟩ := HSc.out W hw
      simp only [Nat.reduceAdd, h12] at hK ⊢
      go_simp
      exact hK.out _ _ rfl (Below.refl _ _)
    case o16 =>
      intro vs W hw hd K hK
      have h12 : vs 12 = .bool false := hd 12 (by kernel_rfl)
      have h15 : vs 15 = .agg #[.int .i64 r.id, .int .i64 r.ver, .int .i64 r.kind, .string lg, .slice a3 n cq] := hd 15 (by kernel_rfl)
      have q14 : (SP.rn N r.id r.ver r.kind lg).p (vs 14) W := hd 14 (by kernel_rfl)
      simp only [Nat.reduceAdd, h12, h15] at hK ⊢
      go_simp
      obtain ⟨v', e14, hq'⟩ := q14
      rw [e14] at hK ⊢
      refine (cE.out v' W hq' (HSq.out W hw)).mono ?_
      rintro e W' ⟨rfl, hb'⟩
      exact hK.out _ _ rfl hb'
    case o17 =>
      intro vs W hw hd K hK
      have h12 : vs 12 = .bool false := hd 12 (by kernel_rfl)
      have h16 : vs 16 = .bool true := hd 16 (by kernel_rfl)
      simp only [Nat.reduceAdd, h12, h16] at hK ⊢
      go_simp
      exact hK.out _ _ rfl (Below.refl _ _)
    case o18 =>
      intro vs W hw hd K hK
      have h12 : vs 12 = .bool false := hd 12 (by kernel_rfl)
      have h17 : vs 17 = .bool false := hd 17 (by kernel_rfl)
      simp only [Nat.reduceAdd, h12, h17] at hK ⊢
      go_simp
      exact hK.out _ _ rfl (Below.refl _ _)
  case hfin =>
    intro vs W hw hv'
    have hk : vs 18 = .bool false := hv' 18 (by decide)
    simp only [Nat.reduceAdd, hk]
    clear hv' cR cS cE
    obtain ⟨k0, k1, k2, k3, k4⟩ := HSc.out W hw
    have HStart := Lib.hid hw
    clear hw
    go_wp2
    clear k0 k1 k2 k3 k4
    go_loopw [33] (fun i wr => ∃ k : Nat, k ≤ n ∧ i = .int .i64 (k : Int) ∧ Below W2.heap.size W2 wr) (fun i _ => n - (intOf i).toNat)
    case atStart => exact ⟨0, Nat.zero_le _, rfl, HStart.out⟩
    case round =>
      obtain ⟨k, hk, rfl, hbw⟩ := hrel
      have HBw := Lib.hid hbw
      by_cases hkn : k < n
      · have hN := HSq.out wr hbw
        obtain ⟨g, o, cap', y, he, hg, t0, -, -, -, -⟩ := hN.at k (by rw [HLen.out]; exact hkn)
        rw [HLen.out] at he
        obtain ⟨ha, -, -⟩ := Value.slice.inj he
        subst ha
        clear he hbw
        have i1 : (0 : Int) ≤ (k : Int) := by omega
        have i2 : (k : Int) < (n : Int) := by omega
        have h3 := HTQ.out k hkn
        have hkf := HKF.out _ h3
        obtain ⟨FF, hFF⟩ : ∃ FF, fieldsL N (N.getD k fd0).tag = FF := ⟨_, rfl⟩
        rw [hFF] at hkf
        have cF1 := Lib.hid (fun W h => cF10.out (N.getD k fd0).tag W h)
        have cF2 := Lib.hid (fun W h => cF20.out (N.getD k fd0).tag W h)
        rw [hFF] at cF1
        rw [← hkf] at cF2
        have cSF := Lib.hid (fun x y W hx hy => refSameFields_any FF FF x y W hx hy true ((sameFB_iff FF FF).2 rfl))
        rcases Nat.eq_zero_or_pos k with hk0 | hkp
        · obtain ⟨tk, htk⟩ : ∃ tk, S (N.getD k fd0).tag = tk := ⟨_, rfl⟩
          rw [htk] at t0 cF1 cF2
          have HK := Lib.hid (fun W (h : Below wr.heap.size wr W) => (h.cell (p := ⟨g, o + k * 4, none⟩) hg).trans t0)
          have d1 : decide (0 < k) = false := decide_eq_false (by omega)
          clear htk t0 hg hN h3 hkf hFF hk0
          go_upto_region 9 with fail
          apply wp_region_inv (V := [.eq (.int .i64 (k : Int)), .eq (.bool false), .eq (.bool false), .any, .any, .any, .any, .any, .any, .any, .any, .any, .any, .any, .any, .any, .any, .eq (.bool false), .eq (.bool false), .eq (.agg #[.int .i64 r.id, .int .i64 r.ver, .int .i64 r.kind, .string lg, .slice (some ⟨g, o, none⟩) n cq]), .eq (.pointer (some ⟨b3, 4, none⟩)), .eq (.slice (some ⟨g, o, none⟩) n cq), .eq (.int .i64 (k : Int)), .eq (.pointer (some ⟨g, o + k * 4, none⟩)), .eq (.pointer (some ⟨g, o + k * 4, none⟩)), .eq (.string tk), .fl FF, .eq (.agg #[.int .i64 r.id, .int .i64 r.ver, .int .i64 r.kind, .string lg, .slice a n cap]), .eq (.pointer (some ⟨b3, 4, none⟩)), .eq (.slice (some ⟨g, o, none⟩) n cq), .eq (.int .i64 (k : Int)), .eq (.pointer (some ⟨g, o + k * 4, none⟩)), .eq (.pointer (some ⟨g, o + k * 4, none⟩)), .eq (.string tk), .fl FF, .eq (.bool true), .eq (.bool false), .eq (.bool false)])
          case hm => kernel_rfl
          case hd => kernel_rfl
          case hb => kernel_rfl
          case hA =>
            intro vs
            simp only [puts, Act.put, List.setIfInBounds_toArray, List.set_cons_zero, List.set_cons_succ]
            exact rfl
          case hob =>
            refine Obs.cons _ _ _ _ _ _ ?o0 (Obs.cons _ _ _ _ _ _ ?o1 (Obs.cons _ _ _ _ _ _ ?o2 (Obs.cons _ _ _ _ _ _ ?o3 (Obs.cons _ _ _ _ _ _ ?o4 (Obs.cons _ _ _ _ _ _ ?o5 (Obs.cons _ _ _ _ _ _ ?o6 (Obs.cons _ _ _ _ _ _ ?o7 (Obs.cons _ _ _ _ _ _ ?o8 (Obs.cons _ _ _ _ _ _ ?o9 (Obs.cons _ _ _ _ _ _ ?o10 (Obs.cons _ _ _ _ _ _ ?o11 (Obs.cons _ _ _ _ _ _ ?o12 (Obs.cons _ _ _ _ _ _ ?o13 (Obs.cons _ _ _ _ _ _ ?o14 (Obs.cons _ _ _ _ _ _ ?o15 (Obs.cons _ _ _ _ _ _ ?o16 (Obs.cons _ _ _ _ _ _ ?o17 (Obs.cons _ _ _ _ _ _ ?o18 (Obs.cons _ _ _ _ _ _ ?o19 (Obs.cons _ _ _ _ _ _ ?o20 (Obs.cons _ _ _ _ _ _ ?o21 (Obs.cons _ _ _ _ _ _ ?o22 (Obs.cons _ _ _ _ _ _ ?o23 (Obs.cons _ _ _ _ _ _ ?o24 (Obs.cons _ _ _ _ _ _ ?o25 (Obs.cons _ _ _ _ _ _ ?o26 (Obs.cons _ _ _ _ _ _ ?o27 (Obs.cons _ _ _ _ _ _ ?o28 (Obs.cons _ _ _ _ _ _ ?o29 (Obs.cons _ _ _ _ _ _ ?o30 (Obs.cons _ _ _ _ _ _ ?o31 (Obs.cons _ _ _ _ _ _ ?o32 (Obs.cons _ _ _ _ _ _ ?o33 (Obs.cons _ _ _ _ _ _ ?o34 (Obs.cons _ _ _ _ _ _ ?o35 (Obs.cons _ _ _ _ _ _ ?o36 (Obs.cons _ _ _ _ _ _ ?o37 (Obs.nil _ _ _ _ _ _))))))))))))))))))))))))))))))))))))))
            case o0 =>
              intro vs W hw hd K hK
              go_simp
              exact hK.out _ _ rfl (Below.refl _ _)
            case o1 =>
              intro vs W hw hd K hK
              have h0 : vs 0 = .int .i64 (k : Int) := hd 0 (by kernel_rfl)
              simp only [Nat.reduceAdd, h0] at hK ⊢
              go_simp
              exact hK.out _ _ rfl (Below.refl _ _)
            case o2 =>
              intro vs W hw hd K hK
              have h1 : vs 1 = .bool false := hd 1 (by kernel_rfl)
              simp only [Nat.reduceAdd, h1] at hK ⊢
              go_simp
              exact hK.out _ _ rfl (Below.refl _ _)
            case o3 =>
              intro vs W hw hd K hK
              have h2 : vs 2 = .bool false := hd 2 (by kernel_rfl)
              simp only [Nat.reduceAdd, h2] at hK ⊢
              go_simp
              exact hK.out _ _ trivial (Below.refl _ _)
            case o4 =>
              intro vs W hw hd K hK
              have h2 : vs 2 = .bool false := hd 2 (by kernel_rfl)
              simp only [Nat.reduceAdd, h2] at hK ⊢
              go_simp
              exact hK.out _ _ trivial (Below.refl _ _)
            case o5 =>
              intro vs W hw hd K hK
              have h2 : vs 2 = .bool false := hd 2 (by kernel_rfl)
              simp only [Nat.reduceAdd, h2] at hK ⊢
              go_simp
              exact hK.out _ _ trivial (Below.refl _ _)
            case o6 =>
              intro vs W hw hd K hK
              have h2 : vs 2 = .bool false := hd 2 (by kernel_rfl)
              simp only [Nat.reduceAdd, h2] at hK ⊢
              go_simp
              exact hK.out _ _ trivial (Below.refl _ _)
            case o7 =>
              intro vs W hw hd K hK
              have h2 : vs 2 = .bool false := hd 2 (by kernel_rfl)
              simp only [Nat.reduceAdd, h2] at hK ⊢
              go_simp
              exact hK.out _ _ trivial (Below.refl _ _)
            case o8 =>
              intro vs W hw hd K hK
              have h2 : vs 2 = .bool false := hd 2 (by kernel_rfl)
              simp only [Nat.reduceAdd, h2] at hK ⊢
              go_simp
              exact hK.out _ _ trivial (Below.refl _ _)
            case o9 =>
              intro vs W hw hd K hK
              have h2 : vs 2 = .bool false := hd 2 (by kernel_rfl)
              simp only [Nat.reduceAdd, h2] at hK ⊢
              go_simp
              exact hK.out _ _ trivial (Below.refl _ _)
            case o10 =>
              intro vs W hw hd K hK
              have h2 : vs 2 = .bool false := hd 2 (by kernel_rfl)
              simp only [Nat.reduceAdd, h2] at hK ⊢
              go_simp
              exact hK.out _ _ trivial (Below.refl _ _)
            case o11 =>
              intro vs W hw hd K hK
              have h2 : vs 2 = .bool false := hd 2 (by kernel_rfl)
              simp only [Nat.reduceAdd, h2] at hK ⊢
              go_simp
              exact hK.out _ _ trivial (Below.refl _ _)
            case o12 =>
              intro vs W hw hd K hK
              have h2 : vs 2 = .bool false := hd 2 (by kernel_rfl)
              simp only [Nat.reduceAdd, h2] at hK ⊢
              go_simp
              exact hK.out _ _ trivial (Below.refl _ _)
            case o13 =>
              intro vs W hw hd K hK
              have h2 : vs 2 = .bool false := hd 2 (by kernel_rfl)
              simp only [Nat.reduceAdd, h2] at hK ⊢
              go_simp
              exact hK.out _ _ trivial (Below.refl _ _)
            case o14 =>
              intro vs W hw hd K hK
              have h2 : vs 2 = .bool false := hd 2 (by kernel_rfl)
              simp only [Nat.reduceAdd, h2] at hK ⊢
              go_simp
              exact hK.out _ _ trivial (Below.refl _ _)
            case o15 =>
              intro vs W hw hd K hK
              have h2 : vs 2 = .bool false := hd 2 (by kernel_rfl)
              simp only [Nat.reduceAdd, h2] at hK ⊢
              go_simp
              exact hK.out _ _ trivial (Below.refl _ _)
            case o16 =>
              intro vs W hw hd K hK
              have h2 : vs 2 = .bool false := hd 2 (by kernel_rfl)
              simp only [Nat.reduceAdd, h2] at hK ⊢
              go_simp
              exact hK.out _ _ trivial (Below.refl _ _)
            case o17 =>
              intro vs W hw hd K hK
              have h2 : vs 2 = .bool false := hd 2 (by kernel_rfl)
              simp only [Nat.reduceAdd, h2] at hK ⊢
              go_simp
              exact hK.out _ _ rfl (Below.refl _ _)
            case o18 =>
              intro vs W hw hd K hK
              have h17 : vs 17 = .bool false := hd 17 (by kernel_rfl)
              simp only [Nat.reduceAdd, h17] at hK ⊢
              go_simp
              exact hK.out _ _ rfl (Below.refl _ _)
            case o19 =>
              intro vs W hw hd K hK
              have h18 : vs 18 = .bool false := hd 18 (by kernel_rfl)
              obtain ⟨k0, k1, k2, k3, k4⟩ := HSc.out W (HBw.out.trans (hw.mono HBw.out.size))
              simp only [Nat.reduceAdd, h18] at hK ⊢
              go_simp
              exact hK.out _ _ rfl (Below.refl _ _)
            case o20 =>
              intro vs W hw hd K hK
              have h18 : vs 18 = .bool false := hd 18 (by kernel_rfl)
              simp only [Nat.reduceAdd, h18] at hK ⊢
              go_simp
              exact hK.out _ _ rfl (Below.refl _ _)
            case o21 =>
              intro vs W hw hd K hK
              have h18 : vs 18 = .bool false := hd 18 (by kernel_rfl)
              have h20 : vs 20 = .pointer (some ⟨b3, 4, none⟩) := hd 20 (by kernel_rfl)
              obtain ⟨k0, k1, k2, k3, k4⟩ := HSc.out W (HBw.out.trans (hw.mono HBw.out.size))
              simp only [Nat.reduceAdd, h18, h20] at hK ⊢
              go_simp
              exact hK.out _ _ rfl (Below.refl _ _)
            case o22 =>
              intro vs W hw hd K hK
              have h18 : vs 18 = .bool false := hd 18 (by kernel_rfl)
              simp only [Nat.reduceAdd, h18] at hK ⊢
              go_simp
              exact hK.out _ _ rfl (Below.refl _ _)
            case o23 =>
              intro vs W hw hd K hK
              have h18 : vs 18 = .bool false := hd 18 (by kernel_rfl)
              have h21 : vs 21 = .slice (some ⟨g, o, none⟩) n cq := hd 21 (by kernel_rfl)
              have h22 : vs 22 = .int .i64 (k : Int) := hd 22 (by kernel_rfl)
              simp only [Nat.reduceAdd, h18, h21, h22] at hK ⊢
              go_simp
              exact hK.out _ _ rfl (Below.refl _ _)
            case o24 =>
              intro vs W hw hd K hK
              have h18 : vs 18 = .bool false := hd 18 (by kernel_rfl)
              have h23 : vs 23 = .pointer (some ⟨g, o + k * 4, none⟩) := hd 23 (by kernel_rfl)
              simp only [Nat.reduceAdd, h18, h23] at hK ⊢
              go_simp
              exact hK.out _ _ rfl (Below.refl _ _)
            case o25 =>
              intro vs W hw hd K hK
              have h18 : vs 18 = .bool false := hd 18 (by kernel_rfl)
              have h24 : vs 24 = .pointer (some ⟨g, o + k * 4, none⟩) := hd 24 (by kernel_rfl)
              have y0 := HK.out W hw
              simp only [Nat.reduceAdd, h18, h24] at hK ⊢
              go_simp
              exact hK.out _ _ rfl (Below.refl _ _)
            case o26 =>
              intro vs W hw hd K hK
              have h18 : vs 18 = .bool false := hd 18 (by kernel_rfl)
              have h19 : vs 19 = .agg #[.int .i64 r.id, .int .i64 r.ver, .int .i64 r.kind, .string lg, .slice (some ⟨g, o, none⟩) n cq] := hd 19 (by kernel_rfl)
              have h25 : vs 25 = .string tk := hd 25 (by kernel_rfl)
              simp only [Nat.reduceAdd, h18, h19, h25] at hK ⊢
              go_simp
              refine (cF1.out W (HSq.out W (HBw.out.trans (hw.mono HBw.out.size)))).mono ?_
              rintro e W' ⟨v', rfl, hq', hb'⟩
              exact hK.out _ _ hq' hb'
            case o27 =>
              intro vs W hw hd K hK
              have h18 : vs 18 = .bool false := hd 18 (by kernel_rfl)
              obtain ⟨k0, k1, k2, k3, k4⟩ := HXc.out W (HBw.out.trans (hw.mono HBw.out.size))
              simp only [Nat.reduceAdd, h18] at hK ⊢
              go_simp
              exact hK.out _ _ rfl (Below.refl _ _)
            case o28 =>
              intro vs W hw hd K hK
              have h18 : vs 18 = .bool false := hd 18 (by kernel_rfl)
              simp only [Nat.reduceAdd, h18] at hK ⊢
              go_simp
              exact hK.out _ _ rfl (Below.refl _ _)
            case o29 =>
              intro vs W hw hd K hK
              have h18 : vs 18 = .bool false := hd 18 (by kernel_rfl)
              have h28 : vs 28 = .pointer (some ⟨b3, 4, none⟩) := hd 28 (by kernel_rfl)
              obtain ⟨k0, k1, k2, k3, k4⟩ := HSc.out W (HBw.out.trans (hw.mono HBw.out.size))
              simp only [Nat.reduceAdd, h18, h28] at hK ⊢
              go_simp
              exact hK.out _ _ rfl (Below.refl _ _)
            case o30 =>
              intro vs W hw hd K hK
              have h18 : vs 18 = .bool false := hd 18 (by kernel_rfl)
              simp only [Nat.reduceAdd, h18] at hK ⊢
              go_simp
              exact hK.out _ _ rfl (Below.refl _ _)
            case o31 =>
              intro vs W hw hd K hK
              have h18 : vs 18 = .bool false := hd 18 (by kernel_rfl)
              have h29 : vs 29 = .slice (some ⟨g, o, none⟩) n cq := hd 29 (by kernel_rfl)
              have h30 : vs 30 = .int .i64 (k : Int) := hd 30 (by kernel_rfl)
              simp only [Nat.reduceAdd, h18, h29, h30] at hK ⊢
              go_simp
              exact hK.out _ _ rfl (Below.refl _ _)
            case o32 =>
              intro vs W hw hd K hK
              have h18 : vs 18 = .bool false := hd 18 (by kernel_rfl)
              have h31 : vs 31 = .pointer (some ⟨g, o + k * 4, none⟩) := hd 31 (by kernel_rfl)
              simp only [Nat.reduceAdd, h18, h31] at hK ⊢
              go_simp
              exact hK.out _ _ rfl (Below.refl _ _)
            case o33 =>
              intro vs W hw hd K hK
              have h18 : vs 18 = .bool false := hd 18 (by kernel_rfl)
              have h32 : vs 32 = .pointer (some ⟨g, o + k * 4, none⟩) := hd 32 (by kernel_rfl)
              have y0 := HK.out W hw
              simp only [Nat.reduceAdd, h18, h32] at hK ⊢
              go_simp
              exact hK.out _ _ rfl (Below.refl _ _)
            case o34 =>
              intro vs W hw hd K hK
              have h18 : vs 18 = .bool false := hd 18 (by kernel_rfl)
              have h27 : vs 27 = .agg #[.int .i64 r.id, .int .i64 r.ver, .int .i64 r.kind, .string lg, .slice a n cap] := hd 27 (by kernel_rfl)
              have h33 : vs 33 = .string tk := hd 33 (by kernel_rfl)
              simp only [Nat.reduceAdd, h18, h27, h33] at hK ⊢
              go_simp
              refine (cF2.out W (HX.out W (HBw.out.trans (hw.mono HBw.out.size)))).mono ?_
              rintro e W' ⟨v', rfl, hq', hb'⟩
              exact hK.out _ _ hq' hb'
            case o35 =>
              intro vs W hw hd K hK
              have h18 : vs 18 = .bool false := hd 18 (by kernel_rfl)
              have q26 : FL (vs 26) FF W := hd 26 (by kernel_rfl)
              have q34 : FL (vs 34) FF W := hd 34 (by kernel_rfl)
              simp only [Nat.reduceAdd, h18] at hK ⊢
              go_simp
              refine (cSF.out _ _ _ q26 q34).mono ?_
              rintro e W' ⟨rfl, hb'⟩
              exact hK.out _ _ rfl hb'
            case o36 =>
              intro vs W hw hd K hK
              have h18 : vs 18 = .bool false := hd 18 (by kernel_rfl)
              have h35 : vs 35 = .bool true := hd 35 (by kernel_rfl)
              simp only [Nat.reduceAdd, h18, h35] at hK ⊢
              go_simp
              exact hK.out _ _ rfl (Below.refl _ _)
            case o37 =>
              intro vs W hw hd K hK
              have h18 : vs 18 = .bool false := hd 18 (by kernel_rfl)
              have h36 : vs 36 = .bool false := hd 36 (by kernel_rfl)
              simp only [Nat.reduceAdd, h18, h36] at hK ⊢
              go_simp
              exact hK.out _ _ rfl (Below.refl _ _)
          case hfin =>
            intro vs W hw hv'
            have hq : vs 37 = .bool false := hv' 37 (by decide)
            simp only [Nat.reduceAdd, hq]
            have b4 := HBw.out.trans (hw.mono HBw.out.size)
            clear hv' cF1 cF2 cSF HK
            go_wp2
            go_roundw
            case rel => exact ⟨k + 1, by omega, by go_num, b4⟩
            case measure => simp [intOf]; omega
        · obtain ⟨m, rfl⟩ : ∃ m, k = m + 1 := ⟨k - 1, by omega⟩
          obtain ⟨g2, o2, cap2, y2, he2, hg2, s0, -, -, -, -⟩ := hN.at m (by rw [HLen.out]; omega)
          obtain ⟨ha2, -, -⟩ := Value.slice.inj he2
          obtain ⟨rfl, rfl, -⟩ := Addr.mk.inj (Option.some.inj ha2)
          clear he2 ha2 hg2
          have hls := HAL.out m hkn
          rw [← S_less8] at hls
          obtain ⟨tk, htk⟩ : ∃ tk, S (N.getD (m + 1) fd0).tag = tk := ⟨_, rfl⟩
          obtain ⟨tm, htm⟩ : ∃ tm, S (N.getD m fd0).tag = tm := ⟨_, rfl⟩
          rw [htk] at t0 cF1 cF2
          rw [htk, htm] at hls
          rw [htm] at s0
          obtain ⟨k, hkm⟩ : ∃ k, m + 1 = k := ⟨_, rfl⟩
          rw [hkm] at t0 i1 i2 hk hkn ⊢
          have HK := Lib.hid (fun W (h : Below wr.heap.size wr W) => (h.cell (p := ⟨g, o + k * 4, none⟩) hg).trans t0)
          have HM := Lib.hid (fun W (h : Below wr.heap.size wr W) => (h.cell (p := ⟨g, o + m * 4, none⟩) hg).trans s0)
          have d1 : decide (0 < k) = true := decide_eq_true (by omega)
          have e1 : IntKind.i64.wrap ((k : Int) - 1) = (m : Int) := by rw [IntKind.wrap_i64]; omega
          have j1 : (0 : Int) ≤ (m : Int) := by omega
          have j2 : (m : Int) < (n : Int) := by omega
          clear htk htm t0 s0 hg hN h3 hkf hFF hkp hkm
          go_upto_region 9 with fail
          apply wp_region_inv (V := [.eq (.int .i64 (k : Int)), .eq (.bool true), .eq (.bool true), .eq (.pointer (some ⟨b3, 4, none⟩)), .eq (.slice (some ⟨g, o, none⟩) n cq), .eq (.int .i64 (k : Int)), .eq (.pointer (some ⟨g, o + k * 4, none⟩)), .eq (.pointer (some ⟨g, o + k * 4, none⟩)), .eq (.string tk), .eq (.pointer (some ⟨b3, 4, none⟩)), .eq (.slice (some ⟨g, o, none⟩) n cq), .eq (.int .i64 (k : Int)), .eq (.int .i64 (m : Int)), .eq (.pointer (some ⟨g, o + m * 4, none⟩)), .eq (.pointer (some ⟨g, o + m * 4, none⟩)), .eq (.string tm), .eq (.bool false), .eq (.bool false), .eq (.bool false), .eq (.agg #[.int .i64 r.id, .int .i64 r.ver, .int .i64 r.kind, .string lg, .slice (some ⟨g, o, none⟩) n cq]), .eq (.pointer (some ⟨b3, 4, none⟩)), .eq (.slice (some ⟨g, o, none⟩) n cq), .eq (.int .i64 (k : Int)), .eq (.pointer (some ⟨g, o + k * 4, none⟩)), .eq (.pointer (some ⟨g, o + k * 4, none⟩)), .eq (.string tk), .fl FF, .eq (.agg #[.int .i64 r.id, .int .i64 r.ver, .int .i64 r.kind, .string lg, .slice a n cap]), .eq (.pointer (some ⟨b3, 4, none⟩)), .eq (.slice (some ⟨g, o, none⟩) n cq), .eq (.int .i64 (k : Int)), .eq (.pointer (some ⟨g, o + k * 4, none⟩)), .eq (.pointer (some ⟨g, o + k * 4, none⟩)), .eq (.string tk), .fl FF, .eq (.bool true), .eq (.bool false), .eq (.bool false)])
          case hm => kernel_rfl
          case hd => kernel_rfl
          case hb => kernel_rfl
          case hA =>
            intro vs
            simp only [puts, Act.put, List.setIfInBounds_toArray, List.set_cons_zero, List.set_cons_succ]
            exact rfl
          case hob =>
            refine Obs.cons _ _ _ _ _ _ ?o0 (Obs.cons _ _ _ _ _ _ ?o1 (Obs.cons _ _ _ _ _ _ ?o2 (Obs.cons _ _ _ _ _ _ ?o3 (Obs.cons _ _ _ _ _ _ ?o4 (Obs.cons _ _ _ _ _ _ ?o5 (Obs.cons _ _ _ _ _ _ ?o6 (Obs.cons _ _ _ _ _ _ ?o7 (Obs.cons _ _ _ _ _ _ ?o8 (Obs.cons _ _ _ _ _ _ ?o9 (Obs.cons _ _ _ _ _ _ ?o10 (Obs.cons _ _ _ _ _ _ ?o11 (Obs.cons _ _ _ _ _ _ ?o12 (Obs.cons _ _ _ _ _ _ ?o13 (Obs.cons _ _ _ _ _ _ ?o14 (Obs.cons _ _ _ _ _ _ ?o15 (Obs.cons _ _ _ _ _ _ ?o16 (Obs.cons _ _ _ _ _ _ ?o17 (Obs.cons _ _ _ _ _ _ ?o18 (Obs.cons _ _ _ _ _ _ ?o19 (Obs.cons _ _ _ _ _ _ ?o20 (Obs.cons _ _ _ _ _ _ ?o21 (Obs.cons _ _ _ _ _ _ ?o22 (Obs.cons _ _ _ _ _ _ ?o23 (Obs.cons _ _ _ _ _ _ ?o24 (Obs.cons _ _ _ _ _ _ ?o25 (Obs.cons _ _ _ _ _ _ ?o26 (Obs.cons _ _ _ _ _ _ ?o27 (Obs.cons _ _ _ _ _ _ ?o28 (Obs.cons _ _ _ _ _ _ ?o29 (Obs.cons _ _ _ _ _ _ ?o30 (Obs.cons _ _ _ _ _ _ ?o31 (Obs.cons _ _ _ _ _ _ ?o32 (Obs.cons _ _ _ _ _ _ ?o33 (Obs.cons _ _ _ _ _ _ ?o34 (Obs.cons _ _ _ _ _ _ ?o35 (Obs.cons _ _ _ _ _ _ ?o36 (Obs.cons _ _ _ _ _ _ ?o37 (Obs.nil _ _ _ _ _ _))))))))))))))))))))))))))))))))))))))
            case o0 =>
              intro vs W hw hd K hK
              go_simp
              exact hK.out _ _ rfl (Below.refl _ _)
            case o1 =>
              intro vs W hw hd K hK
              have h0 : vs 0 = .int .i64 (k : Int) := hd 0 (by kernel_rfl)
              simp only [Nat.reduceAdd, h0] at hK ⊢
              go_simp
              exact hK.out _ _ rfl (Below.refl _ _)
            case o2 =>
              intro vs W hw hd K hK
              have h1 : vs 1 = .bool true := hd 1 (by kernel_rfl)
              simp only [Nat.reduceAdd, h1] at hK ⊢
              go_simp
              exact hK.out _ _ rfl (Below.refl _ _)
            case o3 =>
              intro vs W hw hd K hK
              have h2 : vs 2 = .bool true := hd 2 (by kernel_rfl)
              simp only [Nat.reduceAdd, h2] at hK ⊢
              go_simp
              exact hK.out _ _ rfl (Below.refl _ _)
            case o4 =>
              intro vs W hw hd K hK
              have h2 : vs 2 = .bool true := hd 2 (by kernel_rfl)
              have h3 : vs 3 = .pointer (some ⟨b3, 4, none⟩) := hd 3 (by kernel_rfl)
              obtain ⟨k0, k1, k2, k3, k4⟩ := HSc.out W (HBw.out.trans (hw.mono HBw.out.size))
              simp only [Nat.reduceAdd, h2, h3] at hK ⊢
              go_simp
              exact hK.out _ _ rfl (Below.refl _ _)
            case o5 =>
              intro vs W hw hd K hK
              have h2 : vs 2 = .bool true := hd 2 (by kernel_rfl)
              simp only [Nat.reduceAdd, h2] at hK ⊢
              go_simp
              exact hK.out _ _ rfl (Below.refl _ _)
            case o6 =>
              intro vs W hw hd K hK
              have h2 : vs 2 = .bool true := hd 2 (by kernel_rfl)
              have h4 : vs 4 = .slice (some ⟨g, o, none⟩) n cq := hd 4 (by kernel_rfl)
              have h5 : vs 5 = .int .i64 (k : Int) := hd 5 (by kernel_rfl)
              simp only [Nat.reduceAdd, h2, h4, h5] at hK ⊢
              go_simp
              exact hK.out _ _ rfl (Below.refl _ _)
            case o7 =>
              intro vs W hw hd K hK
              have h2 : vs 2 = .bool true := hd 2 (by kernel_rfl)
              have h6 : vs 6 = .pointer (some ⟨g, o + k * 4, none⟩) := hd 6 (by kernel_rfl)
              simp only [Nat.reduceAdd, h2, h6] at hK ⊢
              go_simp
              exact hK.out _ _ rfl (Below.refl _ _)
            case o8 =>
              intro vs W hw hd K hK
              have h2 : vs 2 = .bool true := hd 2 (by kernel_rfl)
              have h7 : vs 7 = .pointer (some ⟨g, o + k * 4, none⟩) := hd 7 (by kernel_rfl)
              have y0 := HK.out W hw
              simp only [Nat.reduceAdd, h2, h7] at hK ⊢
              go_simp
              exact hK.out _ _ rfl (Below.refl _ _)
            case o9 =>
              intro vs W hw hd K hK
              have h2 : vs 2 = .bool true := hd 2 (by kernel_rfl)
              simp only [Nat.reduceAdd, h2] at hK ⊢
              go_simp
              exact hK.out _ _ rfl (Below.refl _ _)
            case o10 =>
              intro vs W hw hd K hK
              have h2 : vs 2 = .bool true := hd 2 (by kernel_rfl)
              have h9 : vs 9 = .pointer (some ⟨b3, 4, none⟩) := hd 9 (by kernel_rfl)
              obtain ⟨k0, k1, k2, k3, k4⟩ := HSc.out W (HBw.out.trans (hw.mono HBw.out.size))
              simp only [Nat.reduceAdd, h2, h9] at hK ⊢
              go_simp
              exact hK.out _ _ rfl (Below.refl _ _)
            case o11 =>
              intro vs W hw hd K hK
              have h2 : vs 2 = .bool true := hd 2 (by kernel_rfl)
              simp only [Nat.reduceAdd, h2] at hK ⊢
              go_simp
              exact hK.out _ _ rfl (Below.refl _ _)
            case o12 =>
              intro vs W hw hd K hK
              have h2 : vs 2 = .bool true := hd 2 (by kernel_rfl)
              have h11 : vs 11 = .int .i64 (k : Int) := hd 11 (by kernel_rfl)
              simp only [Nat.reduceAdd, h2, h11] at hK ⊢
              go_simp
              exact hK.out _ _ rfl (Below.refl _ _)
            case o13 =>
              intro vs W hw hd K hK
              have h2 : vs 2 = .bool true := hd 2 (by kernel_rfl)
              have h10 : vs 10 = .slice (some ⟨g, o, none⟩) n cq := hd 10 (by kernel_rfl)
              have h12 : vs 12 = .int .i64 (m : Int) := hd 12 (by kernel_rfl)
              simp only [Nat.reduceAdd, h2, h10, h12] at hK ⊢
              go_simp
              exact hK.out _ _ rfl (Below.refl _ _)
            case o14 =>
              intro vs W hw hd K hK
              have h2 : vs 2 = .bool true := hd 2 (by kernel_rfl)
              have h13 : vs 13 = .pointer (some ⟨g, o + m * 4, none⟩) := hd 13 (by kernel_rfl)
              simp only [Nat.reduceAdd, h2, h13] at hK ⊢
              go_simp
              exact hK.out _ _ rfl (Below.refl _ _)
            case o15 =>
              intro vs W hw hd K hK
              have h2 : vs 2 = .bool true := hd 2 (by kernel_rfl)
              have h14 : vs 14 = .pointer (some ⟨g, o + m * 4, none⟩) := hd 14 (by kernel_rfl)
              have y0 := HM.out W hw
              simp only [Nat.reduceAdd, h2, h14] at hK ⊢
              go_simp
              exact hK.out _ _ rfl (Below.refl _ _)
            case o16 =>
              intro vs W hw hd K hK
              have h2 : vs 2 = .bool true := hd 2 (by kernel_rfl)
              have h8 : vs 8 = .string tk := hd 8 (by kernel_rfl)
              have h15 : vs 15 = .string tm := hd 15 (by kernel_rfl)
              simp only [Nat.reduceAdd, h2, h8, h15] at hK ⊢
              go_simp
              exact hK.out _ _ rfl (Below.refl _ _)
            case o17 =>
              intro vs W hw hd K hK
              have h2 : vs 2 = .bool true := hd 2 (by kernel_rfl)
              have h16 : vs 16 = .bool false := hd 16 (by kernel_rfl)
              simp only [Nat.reduceAdd, h2, h16] at hK ⊢
              go_simp
              exact hK.out _ _ rfl (Below.refl _ _)
            case o18 =>
              intro vs W hw hd K hK
              have h17 : vs 17 = .bool false := hd 17 (by kernel_rfl)
              simp only [Nat.reduceAdd, h17] at hK ⊢
              go_simp
              exact hK.out _ _ rfl (Below.refl _ _)
            case o19 =>
              intro vs W hw hd K hK
              have h18 : vs 18 = .bool false := hd 18 (by kernel_rfl)
              obtain ⟨k0, k1, k2, k3, k4⟩ := HSc.out W (HBw.out.trans (hw.mono HBw.out.size))
              simp only [Nat.reduceAdd, h18] at hK ⊢
              go_simp
              exact hK.out _ _ rfl (Below.refl _ _)
            case o20 =>
              intro vs W hw hd K hK
              have h18 : vs 18 = .bool false := hd 18 (by kernel_rfl)
              simp only [Nat.reduceAdd, h18] at hK ⊢
              go_simp
              exact hK.out _ _ rfl (Below.refl _ _)
            case o21 =>
              intro vs W hw hd K hK
              have h18 : vs 18 = .bool false := hd 18 (by kernel_rfl)
              have h20 : vs 20 = .pointer (some ⟨b3, 4, none⟩) := hd 20 (by kernel_rfl)
              obtain ⟨k0, k1, k2, k3, k4⟩ := HSc.out W (HBw.out.trans (hw.mono HBw.out.size))
              simp only [Nat.reduceAdd, h18, h20] at hK ⊢
              go_simp
              exact hK.out _ _ rfl (Below.refl _ _)
            case o22 =>
              intro vs W hw hd K hK
              have h18 : vs 18 = .bool false := hd 18 (by kernel_rfl)
              simp only [Nat.reduceAdd, h18] at hK ⊢
              go_simp
              exact hK.out _ _ rfl (Below.refl _ _)
            case o23 =>
              intro vs W hw hd K hK
              have h18 : vs 18 = .bool false := hd 18 (by kernel_rfl)
              have h21 : vs 21 = .slice (some ⟨g, o, none⟩) n cq := hd 21 (by kernel_rfl)
              have h22 : vs 22 = .int .i64 (k : Int) := hd 22 (by kernel_rfl)
              simp only [Nat.reduceAdd, h18, h21, h22] at hK ⊢
              go_simp
              exact hK.out _ _ rfl (Below.refl _ _)
            case o24 =>
              intro vs W hw hd K hK
              have h18 : vs 18 = .bool false := hd 18 (by kernel_rfl)
              have h23 : vs 23 = .pointer (some ⟨g, o + k * 4, none⟩) := hd 23 (by kernel_rfl)
              simp only [Nat.reduceAdd, h18, h23] at hK ⊢
              go_simp
              exact hK.out _ _ rfl (Below.refl _ _)
            case o25 =>
              intro vs W hw hd K hK
              have h18 : vs 18 = .bool false := hd 18 (by kernel_rfl)
              have h24 : vs 24 = .pointer (some ⟨g, o + k * 4, none⟩) := hd 24 (by kernel_rfl)
              have y0 := HK.out W hw
              simp only [Nat.reduceAdd, h18, h24] at hK ⊢
              go_simp
              exact hK.out _ _ rfl (Below.refl _ _)
            case o26 =>
              intro vs W hw hd K hK
              have h18 : vs 18 = .bool false := hd 18 (by kernel_rfl)
              have h19 : vs 19 = .agg #[.int .i64 r.id, .int .i64 r.ver, .int .i64 r.kind, .string lg, .slice (some ⟨g, o, none⟩) n cq] := hd 19 (by kernel_rfl)
              have h25 : vs 25 = .string tk := hd 25 (by kernel_rfl)
              simp only [Nat.reduceAdd, h18, h19, h25] at hK ⊢
              go_simp
              refine (cF1.out W (HSq.out W (HBw.out.trans (hw.mono HBw.out.size)))).mono ?_
              rintro e W' ⟨v', rfl, hq', hb'⟩
              exact hK.out _ _ hq' hb'
            case o27 =>
              intro vs W hw hd K hK
              have h18 : vs 18 = .bool false := hd 18 (by kernel_rfl)
              obtain ⟨k0, k1, k2, k3, k4⟩ := HXc.out W (HBw.out.trans (hw.mono HBw.out.size))
              simp only [Nat.reduceAdd, h18] at hK ⊢
              go_simp
              exact hK.out _ _ rfl (Below.refl _ _)
            case o28 =>
              intro vs W hw hd K hK
              have h18 : vs 18 = .bool false := hd 18 (by kernel_rfl)
              simp only [Nat.reduceAdd, h18] at hK ⊢
              go_simp
              exact hK.out _ _ rfl (Below.refl _ _)
            case o29 =>
              intro vs W hw hd K hK
              have h18 : vs 18 = .bool false := hd 18 (by kernel_rfl)
              have h28 : vs 28 = .pointer (some ⟨b3, 4, none⟩) := hd 28 (by kernel_rfl)
              obtain ⟨k0, k1, k2, k3, k4⟩ := HSc.out W (HBw.out.trans (hw.mono HBw.out.size))
              simp only [Nat.reduceAdd, h18, h28] at hK ⊢
              go_simp
              exact hK.out _ _ rfl (Below.refl _ _)
            case o30 =>
              intro vs W hw hd K hK
              have h18 : vs 18 = .bool false := hd 18 (by kernel_rfl)
              simp only [Nat.reduceAdd, h18] at hK ⊢
              go_simp
              exact hK.out _ _ rfl (Below.refl _ _)
            case o31 =>
              intro vs W hw hd K hK
              have h18 : vs 18 = .bool false := hd 18 (by kernel_rfl)
              have h29 : vs 29 = .slice (some ⟨g, o, none⟩) n cq := hd 29 (by kernel_rfl)
              have h30 : vs 30 = .int .i64 (k : Int) := hd 30 (by kernel_rfl)
              simp only [Nat.reduceAdd, h18, h29, h30] at hK ⊢
              go_simp
              exact hK.out _ _ rfl (Below.refl _ _)
            case o32 =>
              intro vs W hw hd K hK
              have h18 : vs 18 = .bool false := hd 18 (by kernel_rfl)
              have h31 : vs 31 = .pointer (some ⟨g, o + k * 4, none⟩) := hd 31 (by kernel_rfl)
              simp only [Nat.reduceAdd, h18, h31] at hK ⊢
              go_simp
              exact hK.out _ _ rfl (Below.refl _ _)
            case o33 =>
              intro vs W hw hd K hK
              have h18 : vs 18 = .bool false := hd 18 (by kernel_rfl)
              have h32 : vs 32 = .pointer (some ⟨g, o + k * 4, none⟩) := hd 32 (by kernel_rfl)
              have y0 := HK.out W hw
              simp only [Nat.reduceAdd, h18, h32] at hK ⊢
              go_simp
              exact hK.out _ _ rfl (Below.refl _ _)
            case o34 =>
              intro vs W hw hd K hK
              have h18 : vs 18 = .bool false := hd 18 (by kernel_rfl)
              have h27 : vs 27 = .agg #[.int .i64 r.id, .int .i64 r.ver, .int .i64 r.kind, .string lg, .slice a n cap] := hd 27 (by kernel_rfl)
              have h33 : vs 33 = .string tk := hd 33 (by kernel_rfl)
              simp only [Nat.reduceAdd, h18, h27, h33] at hK ⊢
              go_simp
              refine (cF2.out W (HX.out W (HBw.out.trans (hw.mono HBw.out.size)))).mono ?_
              rintro e W' ⟨v', rfl, hq', hb'⟩
              exact hK.out _ _ hq' hb'
            case o35 =>
              intro vs W hw hd K hK
              have h18 : vs 18 = .bool false := hd 18 (by kernel_rfl)
              have q26 : FL (vs 26) FF W := hd 26 (by kernel_rfl)
              have q34 : FL (vs 34) FF W := hd 34 (by kernel_rfl)
              simp only [Nat.reduceAdd, h18] at hK ⊢
              go_simp
              refine (cSF.out _ _ _ q26 q34).mono ?_
              rintro e W' ⟨rfl, hb'⟩
              exact hK.out _ _ rfl hb'
            case o36 =>
              intro vs W hw hd K hK
              have h18 : vs 18 = .bool false := hd 18 (by kernel_rfl)
              have h35 : vs 35 = .bool true := hd 35 (by kernel_rfl)
              simp only [Nat.reduceAdd, h18, h35] at hK ⊢
              go_simp
              exact hK.out _ _ rfl (Below.refl _ _)
            case o37 =>
              intro vs W hw hd K hK
              have h18 : vs 18 = .bool false := hd 18 (by kernel_rfl)
              have h36 : vs 36 = .bool false := hd 36 (by kernel_rfl)
              simp only [Nat.reduceAdd, h18, h36] at hK ⊢
              go_simp
              exact hK.out _ _ rfl (Below.refl _ _)
          case hfin =>
            intro vs W hw hv'
            have hq : vs 37 = .bool false := hv' 37 (by decide)
            simp only [Nat.reduceAdd, hq]
            have b4 := HBw.out.trans (hw.mono HBw.out.size)
            clear hv' cF1 cF2 cSF HK
            go_wp2
            go_roundw
            case rel => exact ⟨k + 1, by omega, by go_num, b4⟩
            case measure => simp [intOf]; omega
      · obtain rfl : k = n := by omega
        obtain ⟨k0, k1, k2, k3, k4⟩ := HSc.out wr hbw
        obtain ⟨l0, l1, l2, l3, l4⟩ := HXc.out wr hbw
        have hEw := HEn.out wr hbw
        have hb4 := B2.out.trans (hbw.mono B2.out.size)
        clear hbw
        go_wp2_with fail
        refine (c0.out wr hEw).mono ?_
        rintro e w9 ⟨rfl, c⟩
        have hb5 := hb4.trans (c.mono hb4.size)
        clear c
        go_wp2
        go_ret
        exact ⟨rfl, hb5⟩
end Go.Proofs.YtcnjjdbpcobolaaGreatDoor

/- Merged: LA13, M13, ShapedAnd. -/
import Derived.Test.YtmcolapcmjdoeaaGreatDoorQ25
import Derived.Test.YtmcolapcmjdoeaaGreatDoorQ29
import Derived.Test.YtmcolapcmjdoeaaGreatDoorQ37
import Derived.Test.YtmcolapcmjdoeaaGreatDoorQ39
import Derived.Test.YtmcolapcmjdoeaaGreatDoorQ40
import Derived.Test.YtmcolapcmjdoeaaGreatDoorProg
import Derived.Handed
namespace Go.Proofs.YtmcolapcmjdoeaaGreatDoor

section
open Go.RowKit Go.PlainAid
set_option maxHeartbeats 8000000 in
theorem lin13_any (v : Value) (l : List Int) (x : Int) (w : World) (hv : IL v l w) (hz : l.length ≤ 1000000) :
    Calls Tryz.prog 24 #[v, .int .i64 x] w fun e w' => e = .returned (.bool (decide (x ∈ l))) ∧ w' = w := by
  obtain ⟨b, hb⟩ : ∃ b, decide (x ∈ l) = b := ⟨_, rfl⟩
  rw [hb]
  have HT : RowKit.Hid (x ∈ l → b = true) := fun h => by rw [← hb]; exact decide_eq_true h
  have HF : RowKit.Hid (x ∉ l → b = false) := fun h => by rw [← hb]; exact decide_eq_false h
  have HV := Lib.hid hv
  obtain ⟨a, cap, rfl, hc, -⟩ := hv
  obtain ⟨n, hn⟩ : ∃ n, l.length = n := ⟨_, rfl⟩
  have HN := Lib.hid hn
  rw [hn] at HV hc hz ⊢
  clear hb hn
  go_enter Tryz.func24, Tryz.ntmps24
  go_wp2
  go_loopw [5] (fun i wr => ∃ k : Nat, i = .int .i64 (k : Int) ∧ k ≤ n ∧ RowKit.Hid (∀ j, j < k → l.getD j 0 ≠ x) ∧ w = wr) (fun i _ => n - (intOf i).toNat)
  case atStart => exact ⟨0, rfl, Nat.zero_le _, (fun j hj => by omega), rfl⟩
  case round =>
    obtain ⟨k, rfl, hk, HJ, rfl⟩ := hrel
    by_cases hkn : k < n
    · have i1 : (0 : Int) ≤ (k : Int) := by omega
      have i2 : (k : Int) < (n : Int) := by omega
      obtain ⟨g, o, cap', he, hg, c0⟩ := HV.out.at13 k (by rw [HN.out]; exact hkn)
      obtain ⟨rfl, -, hcp⟩ := Value.slice.inj he
      by_cases hx : l.getD k 0 = x
      · have hm : b = true := HT.out (by
          rw [← hx, List.getD_eq_getElem?_getD, List.getElem?_eq_getElem (by rw [HN.out]; exact hkn)]
          exact List.getElem_mem _)
        subst hm
        rw [hx] at c0
        clear HT HF HJ he hcp hx
        go_wp2
        go_ret
        exact ⟨rfl, rfl⟩
      · have HJ2 : RowKit.Hid (∀ j, j < k + 1 → l.getD j 0 ≠ x) := by
          intro j hj
          rcases Nat.lt_or_ge j k with h | h
          · exact HJ.out j h
          · rw [show j = k by omega]; exact hx
        have t0 : (l.getD k 0 == x) = false := by simpa using hx
        clear HT HF HJ he hcp hx
        generalize l.getD k 0 = y at *
        go_wp2
        go_roundw
        case rel => first | exact ⟨k + 1, by go_num, by omega, HJ2.out, rfl⟩ | exact ⟨k + 1, by go_num, by omega, HJ2.out, trivial⟩
        case measure => simp [intOf]; omega
    · obtain rfl : k = n := by omega
      have hm : b = false := HF.out (by
        intro h
        obtain ⟨j, hj, e⟩ := List.mem_iff_getElem.1 h
        have h2 := HJ.out j (by rw [← HN.out]; exact hj)
        rw [List.getD_eq_getElem?_getD, List.getElem?_eq_getElem hj] at h2
        exact h2 e)
      subst hm
      clear HT HF HJ
      go_wp2
      go_ret
      exact ⟨rfl, rfl⟩
def SP.il13 (l : List Int) : SP := ⟨fun v w => IL v l w, fun _ _ _ h hb => h.after hb⟩
theorem above_len13 (L : List Au) (h : bnd L) (id : Int) : (aboveA L id).length ≤ 1000000 := by
  have h1 := iter_len L id 100 (fun a ha => (h.2 a ha).2.1) (L.length + 1)
  have h2 : 100 * L.length ≤ 100 * 64 := Nat.mul_le_mul_left _ h.1
  have h3 : (L.length + 1) * (100 * L.length) ≤ 65 * (100 * 64) := Nat.mul_le_mul (by have := h.1; omega) h2
  unfold aboveA
  omega
theorem below_len13 (L : List Au) (id : Int) : (belowA L id).length ≤ L.length := by
  have key : ∀ (l : List Au) (out : List Int), (l.foldl (fun out a => if id ∈ aboveA L a.id then putI out a.id else out) out).length ≤ out.length + l.length := by
    intro l
    induction l with
    | nil => intro out; simp
    | cons a r ih =>
      intro out
      have h1 := ih (if id ∈ aboveA L a.id then putI out a.id else out)
      have h2 : (if id ∈ aboveA L a.id then putI out a.id else out).length ≤ out.length + 1 := by
        split
        · exact putI_len _ _
        · omega
      rw [List.foldl_cons, List.length_cons]
      omega
  have := key L []
  simpa [belowA] using this
set_option maxHeartbeats 32000000 in
set_option maxRecDepth 100000 in
theorem lawTurns13_any (C : Pr13) (hal : ∀ W, Env W → Calls Tryz.prog 6 #[] W fun e w' => e = .returned (.bool true) ∧ Below W.heap.size W w')
    (v : Value) (L : List Au) (w : World) (hE : Env w) (hv : AL v L w) (hs : ∀ a ∈ L, a.see.length * 16 ≤ 140737488351232) :
    Calls Tryz.prog 5 #[v] w fun e w' => e = .returned (.bool true) ∧ Below w.heap.size w w' := by
  have cA := Lib.hid (hal w hE)
  have HE := Lib.hid (fun (W : World) (hb : Below w.heap.size w W) => hE.after hb)
  have HV := Lib.hid hv
  obtain ⟨sb, hsb⟩ : ∃ b, smallA L = b := ⟨_, rfl⟩
  have cS := Lib.hid (fun (W : World) (hb : Below w.heap.size w W) => refSmall13_any v L W (hv.after hb) hs sb hsb)
  have cR := Lib.hid (fun (h : sb = true) (W : World) (hb : Below w.heap.size w W) => C.right v L W (hE.after hb) (hv.after hb) (small_bnd L (hsb.trans h)))
  have HSm := Lib.hid (fun (h : sb = true) => small_bnd L (hsb.trans h))
  have HAb := Lib.hid (fun (id : Int) (hi : 1 ≤ id ∧ id ≤ 9999) (hbn : bnd L) (hr : rightA L = 0) (W : World) (hb : Below w.heap.size w W) => C.above v L id W (hE.after hb) (hv.after hb) hbn hr hi)
  have HBe := Lib.hid (fun (id : Int) (hi : 1 ≤ id ∧ id ≤ 9999) (hbn : bnd L) (hr : rightA L = 0) (W : World) (hb : Below w.heap.size w W) => C.below v L id W (hE.after hb) (hv.after hb) hbn hr hi)
  obtain ⟨va, vc, rfl, hc1, hc2⟩ := hv.length
  obtain ⟨n, hn⟩ : ∃ n, L.length = n := ⟨_, rfl⟩
  have HN := Lib.hid hn
  rw [hn] at HV cS cR HAb HBe hc1 ⊢
  clear C hal hE hv hs hsb hn
  go_enter Tryz.func5, Tryz.ntmps5
  go_wp2_with fail
  refine cA.out.mono ?_
  rintro e w1 ⟨rfl, hb1⟩
  have B1 := Lib.hid hb1
  have cS1 := Lib.hid (cS.out w1 hb1)
  clear hb1 cA cS
  go_wp2_with fail
  refine cS1.out.mono ?_
  rintro e w2 ⟨rfl, hb2⟩
  have B2 := Lib.hid (B1.out.trans (hb2.mono B1.out.size))
  clear hb2 cS1
  cases sb with
  | false =>
    clear cR HSm HAb HBe
    go_wp2
    first | exact ⟨rfl, B2.out⟩ | (go_ret; exact ⟨rfl, B2.out⟩)
  | true =>
  have cR1 := Lib.hid (cR.out (by simp) w2 B2.out)
  have hbn := HSm.out (by simp)
  clear cR HSm
  go_wp2_with fail
  refine cR1.out.mono ?_
  rintro e w3 ⟨rfl, hb3⟩
  have B3 := Lib.hid (B2.out.trans (hb3.mono B2.out.size))
  clear hb3 cR1
  by_cases hr : rightA L = 0
  · have HBn := Lib.hid hbn
    have HAb2 := Lib.hid (fun id hi => HAb.out id hi hbn hr)
    have HIdR : RowKit.Hid (∀ a ∈ L, 1 ≤ a.id ∧ a.id ≤ 9999) := fun a ha => ((ones_out L none (right_out L hr).2.1).2.1 a ha).2
    have HBe2 := Lib.hid (fun id hi => HBe.out id hi hbn hr)
    have hout := right_out L hr
    have HOut := Lib.hid hout.2.2.2.2
    have hn100 : n ≤ 64 := by rw [← HN.out]; exact hbn.1
    rw [hr]
    clear hbn hout HAb HBe hr
    go_wp2
    go_loopw [3] (fun v3 wr => ∃ i : Nat, v3 = .int .i64 (i : Int) ∧ i ≤ n ∧ RowKit.Hid (Below w.heap.size w wr)) (fun v3 _ => n - (intOf v3).toNat)
    case atStart => exact ⟨0, rfl, Nat.zero_le _, B3⟩
    case round =>
      obtain ⟨i, rfl, hi, HB⟩ := hrel
      by_cases hin : i < n
      · have i1 : (0 : Int) ≤ (i : Int) := by omega
        have i2 : (i : Int) < (n : Int) := by omega
        have hmem := mem_getDA L i (by rw [HN.out]; exact hin)
        obtain ⟨g, o, cap, s, t, he, hg, hrd⟩ := HV.out.read i (by rw [HN.out]; exact hin)
        obtain ⟨rfl, -, hcp⟩ := Value.slice.inj he
        subst hcp
        have hCi := fun W hW => (hrd W hW).1
        have hno := HOut.out _ hmem
        have habl := fun id => above_below L _ hmem id
        have hidi := HIdR.out _ hmem
        obtain ⟨ai, hai⟩ : ∃ x, (L.getD i au0).id = x := ⟨_, rfl⟩
        rw [hai] at hCi hno habl hidi
        have HCi0 := Lib.hid hCi
        have HNo := Lib.hid hno
        have HAbl := Lib.hid habl
        have cU1 := Lib.hid (HAb2.out ai hidi wr HB.out)
        have c0 := HCi0.out wr HB.out
        clear he hrd hmem hai hCi hno habl
        go_wp2_with fail
        refine cU1.out.mono ?_
        rintro e w4 ⟨vu, rfl, hil4, hb4⟩
        have HU := Lib.hid hil4
        have B4 := Lib.hid (HB.out.trans (hb4.mono HB.out.size))
        have hul := above_len13 L HBn.out ai
        obtain ⟨U, hU⟩ : ∃ l, aboveA L ai = l := ⟨_, rfl⟩
        have HUe := Lib.hid hU
        rw [hU] at HU HNo HAbl hul
        obtain ⟨ua, uc, rfl, -⟩ := HU.out.length
        obtain ⟨un, hun⟩ : ∃ n, U.length = n := ⟨_, rfl⟩
        rw [hun] at HU ⊢
        have HUl := Lib.hid hul
        have HUn := Lib.hid hun
        have cD1 := Lib.hid (HBe2.out ai hidi w4 B4.out)
        have c0 := HCi0.out w4 B4.out
        clear hil4 hb4 hU cU1 hul hun
        go_wp2_with fail
        refine cD1.out.mono ?_
        rintro e w5 ⟨vd, rfl, hil5, hb5⟩
        have HD := Lib.hid hil5
        have B5 := Lib.hid (B4.out.trans (hb5.mono B4.out.size))
        have HU5 := Lib.hid (HU.out.after hb5)
        have hdl := below_len13 L ai
        have cI5 := lin13_any _ U ai w5 HU5.out HUl.out
        rw [decide_eq_false HNo.out] at cI5
        have CI5 := Lib.hid cI5
        have cI6 := lin13_any vd (belowA L ai) ai w5 HD.out (by have := HN.out; omega)
        rw [decide_eq_false (fun h => HNo.out ((HAbl.out ai).2 h))] at cI6
        have CI6 := Lib.hid cI6
        have c0 := HCi0.out w5 B5.out
        clear hil5 hb5 hdl cD1 cI5 cI6 HU
        go_wp2_with fail
        refine CI5.out.mono ?_
        rintro e w6 ⟨rfl, hw6⟩
        rw [hw6]
        clear hw6 CI5 w6
        go_wp2_with fail
        refine CI6.out.mono ?_
        rintro e w6 ⟨rfl, hw6⟩
        rw [hw6]
        clear hw6 CI6 w6 c0
        go_wp2
        go_loopw [6] (fun v6 wr => ∃ k : Nat, v6 = .int .i64 (k : Int) ∧ k ≤ n ∧ RowKit.Hid (Below w5.heap.size w5 wr)) (fun v6 _ => n - (intOf v6).toNat)
        case atStart => exact ⟨0, rfl, Nat.zero_le _, Below.refl _ _⟩
        case round =>
          obtain ⟨k, rfl, hk, HB6⟩ := hrel
          have BW := Lib.hid (B5.out.trans (HB6.out.mono B5.out.size))
          by_cases hkn : k < n
          · have j1 : (0 : Int) ≤ (k : Int) := by omega
            have j2 : (k : Int) < (n : Int) := by omega
            obtain ⟨g2, o2, cap2, s2, t2, he2, hg2, hrd2⟩ := HV.out.read k (by rw [HN.out]; exact hkn)
            obtain ⟨ha2, -, hcp2⟩ := Value.slice.inj he2
            obtain ⟨rfl, rfl, -⟩ := Addr.mk.inj (Option.some.inj ha2)
            obtain ⟨bk, hbk⟩ : ∃ x, (L.getD k au0).id = x := ⟨_, rfl⟩
            have hidk : 1 ≤ bk ∧ bk ≤ 9999 := by rw [← hbk]; exact HIdR.out _ (mem_getDA L k (by rw [HN.out]; exact hkn))
            rw [hbk] at hrd2
            have HCk : RowKit.Hid (∀ W, Below wr.heap.size wr W → W.cell? ⟨g, o + k * 5, none⟩ = some (.int .i64 bk)) := fun W hW => (hrd2 W (BW.out.trans (hW.mono BW.out.size))).1
            have HCi : RowKit.Hid (∀ W, Below wr.heap.size wr W → W.cell? ⟨g, o + i * 5, none⟩ = some (.int .i64 ai)) := fun W hW => HCi0.out W (BW.out.trans (hW.mono BW.out.size))
            have HU6 := Lib.hid (HU5.out.after HB6.out)
            obtain ⟨b1, hb1⟩ : ∃ b, decide (bk ∈ U) = b := ⟨_, rfl⟩
            have cU : RowKit.Hid (∀ W, Below wr.heap.size wr W → Calls Tryz.prog 24 #[.slice ua un uc, .int .i64 bk] W fun e w' => e = .returned (.bool b1) ∧ w' = W) := by
              intro W hW
              have h := lin13_any _ U bk W (HU6.out.after hW) HUl.out
              rw [hb1] at h
              exact h
            have cB := Lib.hid (fun (W : World) (hW : Below wr.heap.size wr W) => HBe2.out bk hidk W (BW.out.trans (hW.mono BW.out.size)))
            have hbl := below_len13 L bk
            have hiff := HAbl.out bk
            obtain ⟨BB, hBB⟩ : ∃ l, belowA L bk = l := ⟨_, rfl⟩
            rw [hBB] at cB hbl hiff
            have cI : RowKit.Hid (∀ v W, IL v BB W → Calls Tryz.prog 24 #[v, .int .i64 ai] W fun e w' => e = .returned (.bool b1) ∧ w' = W) := by
              intro v W hil
              have h := lin13_any v BB ai W hil (by have := HN.out; omega)
              rw [show decide (ai ∈ BB) = b1 by rw [← hb1]; exact (decide_eq_decide.2 hiff).symm] at h
              exact h
            have HB1 := Lib.hid hb1
            clear he2 hrd2 hbk hb1 hbl hiff hBB ha2 hcp2
            go_upto_region 15 with fail
            go_cut [81] from 61 to 81 (fun r wx => r = .bool false ∧ Below wr.heap.size wr wx)
            case first =>
              apply wp_region_inv (V := [.eq (.slice ua un uc), .eq (.slice (some ⟨g, o, none⟩) n vc), .eq (.int .i64 (k : Int)), .eq (.pointer (some ⟨g, o + k * 5, none⟩)), .eq (.pointer (some ⟨g, o + k * 5, none⟩)), .eq (.int .i64 bk), .eq (.bool b1), .eq (.slice (some ⟨g, o, none⟩) n vc), .eq (.slice (some ⟨g, o, none⟩) n vc), .eq (.int .i64 (k : Int)), .eq (.pointer (some ⟨g, o + k * 5, none⟩)), .eq (.pointer (some ⟨g, o + k * 5, none⟩)), .eq (.int .i64 bk), .il13 BB, .eq (.slice (some ⟨g, o, none⟩) n vc), .eq (.int .i64 (i : Int)), .eq (.pointer (some ⟨g, o + i * 5, none⟩)), .eq (.pointer (some ⟨g, o + i * 5, none⟩)), .eq (.int .i64 ai), .eq (.bool b1), .eq (.bool false)])
              case hm => kernel_rfl
              case hd => kernel_rfl
              case hb => kernel_rfl
              case hA =>
                intro vs
                simp only [puts, Act.put, List.setIfInBounds_toArray, List.set_cons_zero, List.set_cons_succ]
                exact rfl
              case hob =>
                refine Obs.cons _ _ _ _ _ _ ?o0 (Obs.cons _ _ _ _ _ _ ?o1 (Obs.cons _ _ _ _ _ _ ?o2 (Obs.cons _ _ _ _ _ _ ?o3 (Obs.cons _ _ _ _ _ _ ?o4 (Obs.cons _ _ _ _ _ _ ?o5 (Obs.cons _ _ _ _ _ _ ?o6 (Obs.cons _ _ _ _ _ _ ?o7 (Obs.cons _ _ _ _ _ _ ?o8 (Obs.cons _ _ _ _ _ _ ?o9 (Obs.cons _ _ _ _ _ _ ?o10 (Obs.cons _ _ _ _ _ _ ?o11 (Obs.cons _ _ _ _ _ _ ?o12 (Obs.cons _ _ _ _ _ _ ?o13 (Obs.cons _ _ _ _ _ _ ?o14 (Obs.cons _ _ _ _ _ _ ?o15 (Obs.cons _ _ _ _ _ _ ?o16 (Obs.cons _ _ _ _ _ _ ?o17 (Obs.cons _ _ _ _ _ _ ?o18 (Obs.cons _ _ _ _ _ _ ?o19 (Obs.cons _ _ _ _ _ _ ?o20 (Obs.nil _ _ _ _ _ _)))))))))))))))))))))
                case o0 =>
                  intro vs W hw hd K hK
                  go_simp
                  exact hK.out _ _ rfl (Below.refl _ _)
                case o1 =>
                  intro vs W hw hd K hK
                  go_simp
                  exact hK.out _ _ rfl (Below.refl _ _)
                case o2 =>
                  intro vs W hw hd K hK
                  go_simp
                  exact hK.out _ _ rfl (Below.refl _ _)
                case o3 =>
                  intro vs W hw hd K hK
                  have h1 : vs 1 = .slice (some ⟨g, o, none⟩) n vc := hd 1 (by kernel_rfl)
                  have h2 : vs 2 = .int .i64 (k : Int) := hd 2 (by kernel_rfl)
                  simp only [Nat.reduceAdd, h1, h2] at hK ⊢
                  go_simp
                  exact hK.out _ _ rfl (Below.refl _ _)
                case o4 =>
                  intro vs W hw hd K hK
                  have h3 : vs 3 = .pointer (some ⟨g, o + k * 5, none⟩) := hd 3 (by kernel_rfl)
                  simp only [Nat.reduceAdd, h3] at hK ⊢
                  go_simp
                  exact hK.out _ _ rfl (Below.refl _ _)
                case o5 =>
                  intro vs W hw hd K hK
                  have h4 : vs 4 = .pointer (some ⟨g, o + k * 5, none⟩) := hd 4 (by kernel_rfl)
                  have c0 := HCk.out W hw
                  simp only [Nat.reduceAdd, h4] at hK ⊢
                  go_simp
                  exact hK.out _ _ rfl (Below.refl _ _)
                case o6 =>
                  intro vs W hw hd K hK
                  have h0 : vs 0 = .slice ua un uc := hd 0 (by kernel_rfl)
                  have h5 : vs 5 = .int .i64 bk := hd 5 (by kernel_rfl)
                  simp only [Nat.reduceAdd, h0, h5] at hK ⊢
                  go_simp
                  refine (cU.out W hw).mono ?_
                  rintro e W' ⟨rfl, hW'⟩
                  rw [hW']
                  exact hK.out _ _ rfl (Below.refl _ _)
                case o7 =>
                  intro vs W hw hd K hK
                  go_simp
                  exact hK.out _ _ rfl (Below.refl _ _)
                case o8 =>
                  intro vs W hw hd K hK
                  go_simp
                  exact hK.out _ _ rfl (Below.refl _ _)
                case o9 =>
                  intro vs W hw hd K hK
                  go_simp
                  exact hK.out _ _ rfl (Below.refl _ _)
                case o10 =>
                  intro vs W hw hd K hK
                  have h8 : vs 8 = .slice (some ⟨g, o, none⟩) n vc := hd 8 (by kernel_rfl)
                  have h9 : vs 9 = .int .i64 (k : Int) := hd 9 (by kernel_rfl)
                  simp only [Nat.reduceAdd, h8, h9] at hK ⊢
                  go_simp
                  exact hK.out _ _ rfl (Below.refl _ _)
                case o11 =>
                  intro vs W hw hd K hK
                  have h10 : vs 10 = .pointer (some ⟨g, o + k * 5, none⟩) := hd 10 (by kernel_rfl)
                  simp only [Nat.reduceAdd, h10] at hK ⊢
                  go_simp
                  exact hK.out _ _ rfl (Below.refl _ _)
                case o12 =>
                  intro vs W hw hd K hK
                  have h11 : vs 11 = .pointer (some ⟨g, o + k * 5, none⟩) := hd 11 (by kernel_rfl)
                  have c0 := HCk.out W hw
                  simp only [Nat.reduceAdd, h11] at hK ⊢
                  go_simp
                  exact hK.out _ _ rfl (Below.refl _ _)
                case o13 =>
                  intro vs W hw hd K hK
                  have h7 : vs 7 = .slice (some ⟨g, o, none⟩) n vc := hd 7 (by kernel_rfl)
                  have h12 : vs 12 = .int .i64 bk := hd 12 (by kernel_rfl)
                  simp only [Nat.reduceAdd, h7, h12] at hK ⊢
                  go_simp
                  refine (cB.out W hw).mono ?_
                  rintro e W' ⟨v', rfl, hil, hb'⟩
                  exact hK.out _ _ hil hb'
                case o14 =>
                  intro vs W hw hd K hK
                  go_simp
                  exact hK.out _ _ rfl (Below.refl _ _)
                case o15 =>
                  intro vs W hw hd K hK
                  go_simp
                  exact hK.out _ _ rfl (Below.refl _ _)
                case o16 =>
                  intro vs W hw hd K hK
                  have h14 : vs 14 = .slice (some ⟨g, o, none⟩) n vc := hd 14 (by kernel_rfl)
                  have h15 : vs 15 = .int .i64 (i : Int) := hd 15 (by kernel_rfl)
                  simp only [Nat.reduceAdd, h14, h15] at hK ⊢
                  go_simp
                  exact hK.out _ _ rfl (Below.refl _ _)
                case o17 =>
                  intro vs W hw hd K hK
                  have h16 : vs 16 = .pointer (some ⟨g, o + i * 5, none⟩) := hd 16 (by kernel_rfl)
                  simp only [Nat.reduceAdd, h16] at hK ⊢
                  go_simp
                  exact hK.out _ _ rfl (Below.refl _ _)
                case o18 =>
                  intro vs W hw hd K hK
                  have h17 : vs 17 = .pointer (some ⟨g, o + i * 5, none⟩) := hd 17 (by kernel_rfl)
                  have c0 := HCi.out W hw
                  simp only [Nat.reduceAdd, h17] at hK ⊢
                  go_simp
                  exact hK.out _ _ rfl (Below.refl _ _)
                case o19 =>
                  intro vs W hw hd K hK
                  have h18 : vs 18 = .int .i64 ai := hd 18 (by kernel_rfl)
                  have h13 : IL (vs 13) BB W := hd 13 (by kernel_rfl)
                  simp only [Nat.reduceAdd, h18] at hK ⊢
                  go_simp
                  refine (cI.out (vs 13) W h13).mono ?_
                  rintro e W' ⟨rfl, hW'⟩
                  rw [hW']
                  exact hK.out _ _ rfl (Below.refl _ _)
                case o20 =>
                  intro vs W hw hd K hK
                  have h6 : vs 6 = .bool b1 := hd 6 (by kernel_rfl)
                  have h19 : vs 19 = .bool b1 := hd 19 (by kernel_rfl)
                  simp only [Nat.reduceAdd, h6, h19] at hK ⊢
                  go_simp
                  exact hK.out _ _ rfl (Below.refl _ _)
              case hfin =>
                intro vs W hw hd
                have h20 : vs 20 = .bool false := hd 20 (by decide)
                simp only [Nat.reduceAdd, h20]
                go_wp2_with fail
                go_meet
                exact ⟨rfl, hw⟩
            case rest =>
              obtain ⟨rfl, hwx⟩ := hcut
              have BX := Lib.hid (BW.out.trans (hwx.mono BW.out.size))
              have HBX := Lib.hid (HB6.out.trans (hwx.mono HB6.out.size))
              have cU2 := Lib.hid (cU.out wc hwx)
              have c0 := HCk.out wc hwx
              clear hwx cU cB cI HCi
              go_wp2_with fail
              refine cU2.out.mono ?_
              rintro e w7 ⟨rfl, hw7⟩
              rw [hw7]
              clear hw7 cU2 w7
              cases b1 with
              | false =>
                clear HB1 c0
                go_wp2
                go_roundw
                case rel => exact ⟨k + 1, by go_num, by omega, HBX⟩
                case measure => simp [intOf]; omega
              | true =>
                have hin2 : bk ∈ aboveA L ai := by rw [HUe.out]; exact of_decide_eq_true HB1.out
                have cF := Lib.hid (HAb2.out bk hidk wc BX.out)
                have HTr : RowKit.Hid (∀ x ∈ aboveA L bk, x ∈ U) := by
                  intro x hx
                  rw [← HUe.out]
                  exact above_trans L ai bk x hin2 hx
                have hfl := above_len13 L HBn.out bk
                obtain ⟨F, hF⟩ : ∃ l, aboveA L bk = l := ⟨_, rfl⟩
                rw [hF] at cF HTr hfl
                clear hin2 hF HB1
                go_wp2_with fail
                refine cF.out.mono ?_
                rintro e w8 ⟨vf, rfl, hil8, hb8⟩
                have HF := Lib.hid hil8
                have B8 := Lib.hid (BX.out.trans (hb8.mono BX.out.size))
                have HB8 := Lib.hid (HBX.out.trans (hb8.mono HBX.out.size))
                have HU8 := Lib.hid (HU5.out.after HB8.out)
                obtain ⟨fa, fc, rfl, -⟩ := HF.out.length
                obtain ⟨fn, hfn⟩ : ∃ n, F.length = n := ⟨_, rfl⟩
                rw [hfn] at HF hfl ⊢
                have HFn := Lib.hid hfn
                clear hil8 hb8 cF c0 hfn
                go_wp2
                go_loopw [8] (fun v8 ws => ∃ j : Nat, v8 = .int .i64 (j : Int) ∧ j ≤ fn ∧ w8 = ws) (fun v8 _ => fn - (intOf v8).toNat)
                case atStart => exact ⟨0, rfl, Nat.zero_le _, rfl⟩
                case round =>
                  obtain ⟨j, rfl, hj, hws⟩ := hrel
                  rw [← hws]
                  clear hws
                  by_cases hjn : j < fn
                  · have l1 : (0 : Int) ≤ (j : Int) := by omega
                    have l2 : (j : Int) < (fn : Int) := by omega
                    obtain ⟨g3, o3, cap3, he3, hg3, d0⟩ := HF.out.at13 j (by rw [HFn.out]; exact hjn)
                    obtain ⟨rfl, -, hcp3⟩ := Value.slice.inj he3
                    have hmF : F.getD j 0 ∈ F := by
                      rw [List.getD_eq_getElem?_getD, List.getElem?_eq_getElem (by rw [HFn.out]; exact hjn)]
                      exact List.getElem_mem _
                    have hxU := HTr.out _ hmF
                    obtain ⟨x, hx⟩ : ∃ x, F.getD j 0 = x := ⟨_, rfl⟩
                    rw [hx] at d0 hxU
                    have cX := lin13_any _ U x w8 HU8.out HUl.out
                    rw [decide_eq_true hxU] at cX
                    have CX := Lib.hid cX
                    clear he3 hcp3 hx hmF hxU cX
                    go_wp2_with fail
                    refine CX.out.mono ?_
                    rintro e w9 ⟨rfl, hw9⟩
                    rw [hw9]
                    clear hw9 CX w9 d0
                    go_wp2
                    go_roundw
                    case rel => first | exact ⟨j + 1, by go_num, by omega, rfl⟩ | exact ⟨j + 1, by go_num, by omega, trivial⟩
                    case measure => simp [intOf]; omega
                  · obtain rfl : j = fn := by omega
                    go_wp2
                    go_roundw
                    case rel => exact ⟨k + 1, by go_num, by omega, HB8⟩
                    case measure => simp [intOf]; omega
          · obtain rfl : k = n := by omega
            go_wp2
            go_roundw
            case rel => exact ⟨i + 1, by go_num, by omega, BW⟩
            case measure => simp [intOf]; omega
      · obtain rfl : i = n := by omega
        go_wp2
        first | exact ⟨rfl, HB.out⟩ | (go_ret; exact ⟨rfl, HB.out⟩)
  · have t0 : (rightA L == 0) = false := by simpa using hr
    have t0m : (rightA L != 0) = true := by simpa using hr
    obtain ⟨re, hre⟩ : ∃ x, rightA L = x := ⟨_, rfl⟩
    rw [hre] at t0 t0m ⊢
    clear hbn hr hre HAb HBe
    go_wp2
    first | exact ⟨rfl, B3.out⟩ | (go_ret; exact ⟨rfl, B3.out⟩)
end

section
open Go.RowKit Go.PlainAid
theorem pr13 : Pr13 where
  right v L w hE hv hb := right_any v L w hE hv hb
  get v L id w0 w _ hb0 hv hb hr := get_any v L id w0 w hb0 hv hb hr
  find v L kd h w hE hv hb hr hh hl hw := find_any v L kd h w hE hv (by have := hb.1; omega) (ok_of L hb (right_out L hr).2.1) (right_out L hr).2.2.1 hw hh (by omega)
  add v L a s t w hE hv hA hb hb1 hr := add_any v L a s t w hE hv hA hb hb1 hr
  rename v L id h w0 w hE hb0 hv hb hr hh hl := rename_any v L id h w0 w hE hb0 hv hb hr hh hl
  merge v L into gone w hE hv hb hr := merge_any v L into gone w hE hv hb hr
  remove v L id w _ hv hb hr := remove_any v L id w hv hb hr
  setAbove v L id u l w hE hv hu hb hl hr := setAbove_any v L id u l w hE hv hu hb hl hr
  above v L id w _ hv hb hr hi := above_any v L id w hv hb hr hi
  below v L id w _ hv hb hr hi := below_any v L id w hv hb hr hi
theorem lawTurns_any (v : Value) (L : List Au) (w : World) (hE : Env w) (hv : AL v L w) (hs : ∀ a ∈ L, a.see.length * 16 ≤ 140737488351232) :
    Calls Tryz.prog 5 #[v] w fun e w' => e = .returned (.bool true) ∧ Below w.heap.size w w' :=
  lawTurns13_any pr13 (fun W hW => lalive13_any pr13 W hW) v L w hE hv hs
theorem lawKeeps_any (v : Value) (L : List Au) (a : Au) (s t : Value) (into gone : Int) (w : World) (hE : Env w) (hv : AL v L w) (hs : ∀ b ∈ L, b.see.length * 16 ≤ 140737488351232) (hA : AN a s t w) (hs2 : a.see.length * 16 ≤ 140737488351232) :
    Calls Tryz.prog 4 #[v, AV a s t, .int .i64 into, .int .i64 gone] w fun e w' => e = .returned (.bool true) ∧ Below w.heap.size w w' :=
  lawKeeps13_any pr13 v L a s t into gone w hE hv hA hs hs2
theorem lawFinds_any (v : Value) (L : List Au) (id kd : Int) (h : List UInt8) (w : World) (h1 : -9223372036854775808 ≤ kd) (h2 : kd ≤ 9223372036854775807) (hE : Env w) (hv : AL v L w) (hs : ∀ b ∈ L, b.see.length * 16 ≤ 140737488351232) :
    Calls Tryz.prog 3 #[v, .int .i64 id, .int .i64 kd, .string (S h)] w fun e w' => e = .returned (.bool true) ∧ Below w.heap.size w w' :=
  lawFinds13_any pr13 v L id kd h w hE hv hs ⟨h1, h2⟩
end

section
theorem lift_shaped {H : Type} {enc : TypeId × Value → H} {a : Assume} {C : Checked} {os : Os} {f : FuncId} {fn : Func} {s : ChangeSpec} {apart fresh handsOn again : Bool} {X : World → Array Value → Prop}
    (hX : ∀ (w w' : World) (args : Array Value), w.heap = w'.heap → X w args → X w' args)
    (own : ownKnob C.prog.godebug = none) (started : os.Started) (noInit : C.prog.inits.idxOf? f = none) (hfn : C.prog.funcs[f]? = some fn)
    (witness : ∃ (w : World) (tape : Tape) (i : Input), w.os = os ∧ (w.forCall tape i).Shaped C.prog ∧ i.vars = [] ∧ Input.okWide C.prog (w.forCall tape i) .any w.heap.size f i ∧
      ((s.pre enc C.prog fn [] apart (w.forCall tape i).memory i.args ∧ X (w.forCall tape i).memory i.args) ∧ sizedMet enc C.prog fn (OpenSpec.ofChange s) apart (w.forCall tape i).memory i.args) ∧ a.holds C.prog (lone (Frame.enter C.prog f i.args .normal) [] (w.forCall tape i)))
    (contract : ∀ (W : World) (base : Nat) (args : Array Value) (ds gs : List (DataW H)) (before : List MemPlace),
      (∀ (j : Nat) t v, fn.params[j]? = some t → args[j]? = some v → Value.okWide C.prog W .any base t v) →
      DataW.Whole enc C.prog fn.params.toList s.vars apart W args.toList ds gs before → X W args → W.ShapedOpen C.prog →
      Calls C.prog f args W fun e W' => ∃ v, e = .returned v ∧ s.post enc C.prog fn apart fresh handsOn again W args v W') :
    ReturnsInHanded a C os f .any (fun w args => (s.pre enc C.prog fn [] apart w args ∧ X w args) ∧ sizedMet enc C.prog fn (OpenSpec.ofChange s) apart w args) (s.post enc C.prog fn apart fresh handsOn again) := by
  refine returnsInHanded_of_calls own started noInit witness ?_
  intro w tape i _ hsh _ hok hpre _
  obtain ⟨_, _, _, fn2, hfn2, _, _, _, _, hval⟩ := hok
  obtain rfl : fn2 = fn := Option.some.inj (hfn2.symm.trans hfn)
  obtain ⟨⟨⟨ds, gs, before, hw, _⟩, hx⟩, _⟩ := hpre
  refine (contract (w.forCall tape i) w.heap.size i.args ds gs before hval (DataW.Whole.of_heap (by rfl) hw) (hX _ _ _ (by rfl) hx) hsh).mono fun e W' hh => ?_
  obtain ⟨v, rfl, hp⟩ := hh
  exact ChangeSpec.post_blind hp
end

end Go.Proofs.YtmcolapcmjdoeaaGreatDoor

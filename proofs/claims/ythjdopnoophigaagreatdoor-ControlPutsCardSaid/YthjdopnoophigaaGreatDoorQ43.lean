/- Merged: RF14, RG14, LE14. -/
import Derived.Test.YthjdopnoophigaaGreatDoorQ42
import Derived.Maps.AppendAt
import Derived.BigQuiet
import Derived.Test.YthjdopnoophigaaGreatDoorQ40
import Derived.Test.YthjdopnoophigaaGreatDoorQ31
import Derived.Test.YthjdopnoophigaaGreatDoorQ10
import Derived.Test.YthjdopnoophigaaGreatDoorQ08
import Derived.Test.YthjdopnoophigaaGreatDoorQ21
import Derived.Test.YthjdopnoophigaaGreatDoorQ04
namespace Go.Proofs.YthjdopnoophigaaGreatDoor

section
open Go.RowKit Go.PlainAid
theorem SR.kept14 {B : Nat} {v : Value} {L : List (List UInt8)} {w w' : World} {row : Option Nat} (h : SR B v L w) (hg : w.grownBy w' row) (hne : ∀ k, v.ownBlock = some k → row ≠ some k) : SR B v L w' := by
  refine ⟨⟨h.row.1, ?_⟩, h.nn⟩
  rcases h.row.2 with hn | ⟨g, cap, cur, hv, hB', hgr, rest⟩
  · exact .inl hn
  · have hlt : g < w.heap.size := (Array.getElem?_eq_some_iff.1 hgr).1
    exact .inr ⟨g, cap, cur, hv, hB', (hg.block g hlt (fun e => hne g (by rw [hv]; rfl) e.symm)).trans hgr, rest⟩
/-- append of one subfield that has just been laid, with the place of the row that comes of it. -/
theorem append_sbAt {ops : Array Oper} {rest : List Oper} {o : Oper} {a : Act} {Q : Exit → Act → World → Prop} (w : World) (hgd : o.guard = none) (s x : Operand)
    (ho : o.op = .call { callee := .builtin .append, args := #[s, x], argTypes := #[22, 22] })
    (B : Nat) (v : Value) (L : List Sub) (c : UInt8) (y : List UInt8) (hs : a.eval s = v) (h : SB B v L w) (hx : a.eval x = .slice (some ⟨w.heap.size, 0, none⟩) 1 1) (hz : L.length ≤ 10000000) (hB : B ≤ w.heap.size)
    (hk : ∀ v' w', SB B v' (L ++ [(c, y)]) w' → (w.alloc (.cells #[.int .u8 (c.toNat : Int), .string (S y)] 48)).grownBy w' v.ownBlock → (v'.ownBlock = v.ownBlock ∨ v'.ownBlock = some (w.heap.size + 1)) → wpList Tryz.prog ops Q rest (a.put o.dst v') w') : wpList Tryz.prog ops Q (o :: rest) a (w.alloc (.cells #[.int .u8 (c.toNat : Int), .string (S y)] 48)) := by
  obtain ⟨i0, hi, hz0, hz1, hz2⟩ := info_sub
  have hrow := World.ownsRow.alloc h (.cells #[.int .u8 (c.toNat : Int), .string (S y)] 48)
  refine wpList_append_own_at _ hgd s x 22 ho B 48 i0 (.agg #[.int .u8 0, .string ⟨#[]⟩]) 2 24 Tryz.underlying22 hi hz0 hz1 hz2 rfl (by decide) v L.length _ hs hrow ⟨w.heap.size, 0, none⟩ 1 1 [.int .u8 (c.toNat : Int), .string (S y)] hx rfl (cells_two w _ _ _) (by intro u hu; simp at hu; rcases hu with rfl | rfl <;> rfl) (by unfold maxLen; omega) (by omega) (by simp; omega) ?_
  intro v2 w2 hown2 hg2 hn2 hat
  exact hk v2 w2 (by unfold SB; rw [List.length_append, cellsL_snoc]; exact hown2) hg2 (by simpa using hat)

set_option maxHeartbeats 16000000 in
set_option maxRecDepth 100000 in
theorem refSubs3_any (h : List UInt8) (hv : validT h = true) (hl : h.length ≤ 10000) (w : World) :
    Calls Tryz.prog 35 #[.int .i64 3, .string (S h)] w fun e w' => ∃ v, e = .returned v ∧ SB w.heap.size v (subsU 3 h) w' ∧ Below w.heap.size w w' := by
  obtain ⟨Q, hQ⟩ : ∃ Q, (fun (e : Ending) (w' : World) => ∃ v, e = .returned v ∧ SB w.heap.size v (subsU 3 h) w' ∧ Below w.heap.size w w') = Q := ⟨_, rfl⟩
  rw [hQ]
  have HR0 := Lib.hid (SB.empty w)
  have HB0 := Lib.hid ((Below.refl w.heap.size w).alloc (Nat.le_refl _) (.cells #[] 48))
  obtain ⟨W0, hW0⟩ : ∃ W0, w.alloc (.cells #[] 48) = W0 := ⟨_, rfl⟩
  have HW0 := Lib.hid hW0
  rw [hW0] at HR0 HB0
  have cP := Lib.hid (refParts_any h hv (by omega) W0)
  obtain ⟨P, hP⟩ : ∃ P, partsX h = P := ⟨_, rfl⟩
  have hpl : P.length ≤ h.length + 1 := by rw [← hP]; exact parts_num h
  have HQ : RowKit.Hid (∀ v W, SB w.heap.size v (codedL 97 P) W → Below w.heap.size w W → Q (.returned v) W) := by
    rw [← hQ]
    intro v W h1 h2
    exact ⟨v, rfl, by rw [subs3, hP]; exact h1, h2⟩
  rw [hP] at cP
  clear hQ hW0
  go_enter Tryz.func35, Tryz.ntmps35
  go_upto_region 11 with fail
  rw [HW0.out]
  go_wp2_with fail
  refine cP.out.mono ?_
  rintro e w1 ⟨v, rfl, hbl, hb1⟩
  have HB1 : RowKit.Hid (Below w.heap.size w w1) := HB0.out.trans (hb1.mono HB0.out.size)
  have HRI := Lib.hid (HR0.out.after (hb1.mono (by have := HB0.out.size; rw [← HW0.out]; simp)))
  have HVB : RowKit.Hid (∀ k, v.ownBlock = some k → w.heap.size < k ∧ k < w1.heap.size) := fun k hk => by
    have := hbl.row.lt k hk
    exact ⟨by have := this.1; rw [← HW0.out] at this; simp at this; omega, this.2⟩
  have HV := Lib.hid hbl
  obtain ⟨a, cap, rfl, hcap, hmax⟩ := hbl.bl.length
  unfold maxLen at hmax
  obtain ⟨n, hn⟩ : ∃ n, P.length = n := ⟨_, rfl⟩
  have HN := Lib.hid hn
  rw [hn] at hcap hpl HV HVB ⊢
  clear hn hb1 cP hP HR0 HB0 hbl HW0
  have c0 : codedL 97 (P.take 0) = [] := rfl
  go_wp2
  go_loopw [8, 10] (fun s8 s10 wr => ∃ k : Nat, s10 = .int .i64 (k : Int) ∧ k ≤ n ∧ RowKit.Hid (SB w.heap.size s8 (codedL 97 (P.take k)) wr ∧ (∀ j, s8.ownBlock = some j → j = w.heap.size ∨ w1.heap.size ≤ j)) ∧ RowKit.Hid (Below w.heap.size w wr ∧ SR W0.heap.size (.slice a n cap) P wr ∧ w1.heap.size ≤ wr.heap.size)) (fun _ s10 _ => n - (intOf s10).toNat)
  case atStart => exact ⟨0, rfl, Nat.zero_le _, ⟨HRI.out, fun j hj => .inl (by simp [Value.ownBlock] at hj; exact hj.symm)⟩, HB1.out, HV.out, Nat.le_refl _⟩
  case round =>
    obtain ⟨k, rfl, hk, HS, HBr⟩ := hrel
    clear HRI HV
    by_cases hkn : k < n
    · have i1 : (0 : Int) ≤ (k : Int) := by omega
      have i2 : (k : Int) < (n : Int) := by omega
      obtain ⟨g, o, cap', he, hg, c1⟩ := HBr.out.2.1.bl.at12 k (by rw [HN.out]; exact hkn)
      obtain ⟨rfl, -, hcp⟩ := Value.slice.inj he
      subst hcp
      have hct := coded_take P k (by rw [HN.out]; exact hkn)
      have hlen : (codedL 97 (P.take k)).length ≤ 100000 := by rw [coded_len, List.length_take]; omega
      have HCT := Lib.hid hct
      have HLen := Lib.hid hlen
      have HGs := Lib.hid HBr.out.1.size
      clear he hg hct hlen
      obtain ⟨M, hM⟩ : ∃ M, codedL 97 (P.take k) = M := ⟨_, rfl⟩
      rw [hM] at HS HCT HLen
      obtain ⟨y, hy⟩ : ∃ y, P.getD k [] = y := ⟨_, rfl⟩
      rw [hy] at c1 HCT
      clear hM hy
      have HEnd : RowKit.Hid (∀ v' w' cc, codeK k = cc → SB w.heap.size v' (M ++ [(cc, y)]) w' → (wr.alloc (.cells #[.int .u8 (cc.toNat : Int), .string (S y)] 48)).grownBy w' u8.ownBlock → (v'.ownBlock = u8.ownBlock ∨ v'.ownBlock = some (wr.heap.size + 1)) →
          (SB w.heap.size v' (codedL 97 (P.take (k + 1))) w' ∧ (∀ j, v'.ownBlock = some j → j = w.heap.size ∨ w1.heap.size ≤ j)) ∧ Below w.heap.size w w' ∧ SR W0.heap.size (.slice (some ⟨g, o, none⟩) n cap) P w' ∧ w1.heap.size ≤ w'.heap.size) := by
        rintro v' w' cc rfl hs' hg' hat
        have hbr := HBr.out
        have hba := hbr.1.alloc hbr.1.size (.cells #[.int .u8 ((codeK k).toNat : Int), .string (S y)] 48)
        refine ⟨⟨by rw [HCT.out]; exact hs', fun j hj => ?_⟩, hba.grown hg' hba.size (fun j hj => ?_), ?_, ?_⟩
        · rcases hat with e | e
          · exact HS.out.2 j (e.symm.trans hj)
          · rw [e] at hj
            have := Option.some.inj hj
            exact .inr (by have := hbr.2.2; omega)
        · exact (HS.out.1.lt j hj).1
        · refine (hbr.2.1.after ((Below.refl wr.heap.size wr).alloc (Nat.le_refl _) _)).kept14 hg' (fun j hj e => ?_)
          have h1 := HVB.out j hj
          have h2 := HS.out.2 j e
          omega
        · have := hg'.size
          have := hbr.2.2
          simp at *
          omega
      by_cases hk0 : k = 0
      · have t0 : ((k : Int) == 0) = true := by simp; omega
        have He := Lib.hid (fun v' w' => HEnd.out v' w' 97 (by rw [hk0]; rfl))
        clear hk0 HEnd
        go_wp2_with (at_builtin; refine append_sbAt _ rfl _ _ rfl w.heap.size u8 M 97 y rfl HS.out.1 rfl (by have := HLen.out; omega) HGs.out ?_; intro v' w' hs' hb' hB')
        have HF := Lib.hid (He.out v' w' hs' hb' hB')
        clear hs' hb' hB' HS HBr He c1 t0
        go_wp2
        go_roundw
        case rel => exact ⟨k + 1, by go_num, by omega, HF.out.1, HF.out.2⟩
        case measure => simp [intOf]; omega
      · have t0 : ((k : Int) == 0) = false := by simp; omega
        have He := Lib.hid (fun v' w' => HEnd.out v' w' 120 (by unfold codeK; rw [if_neg hk0]))
        clear hk0 HEnd
        go_wp2_with (at_builtin; refine append_sbAt _ rfl _ _ rfl w.heap.size u8 M 120 y rfl HS.out.1 rfl (by have := HLen.out; omega) HGs.out ?_; intro v' w' hs' hb' hB')
        have HF := Lib.hid (He.out v' w' hs' hb' hB')
        clear hs' hb' hB' HS HBr He c1 t0
        go_wp2
        go_roundw
        case rel => exact ⟨k + 1, by go_num, by omega, HF.out.1, HF.out.2⟩
        case measure => simp [intOf]; omega
    · obtain rfl : k = n := by omega
      have hT : P.take k = P := by rw [← HN.out, List.take_length]
      rw [hT] at HS
      have HG := Lib.hid (HQ.out _ wr HS.out.1 HBr.out.1)
      clear HS HBr HQ
      go_wp2
      exact HG.out

theorem refSubs_any (kd : Int) (h : List UInt8) (hv : validT h = true) (hl : h.length ≤ 10000) (w : World) :
    Calls Tryz.prog 35 #[.int .i64 kd, .string (S h)] w fun e w' => ∃ v, e = .returned v ∧ SB w.heap.size v (subsU kd h) w' ∧ Below w.heap.size w w' := by
  by_cases h1 : kd = 1
  · subst h1
    exact refSubs1_any h hl w
  by_cases h3 : kd = 3
  · subst h3
    exact refSubs3_any h hv hl w
  · have t1 : (kd == 1) = false := by simpa using h1
    have t3 : (kd == 3) = false := by simpa using h3
    have t3n : (kd != 3) = true := by simpa using h3
    have e : subsU kd h = [(97, h)] := by
      unfold subsU
      rw [if_neg (fun g => h1 g.1), if_neg h3]
    rw [e]
    have HS := Lib.hid (SB.one w 97 h)
    have HB := Lib.hid ((Below.refl w.heap.size w).alloc (Nat.le_refl _) (.cells #[.int .u8 ((97 : UInt8).toNat : Int), .string (S h)] 48))
    clear e
    go_enter Tryz.func35, Tryz.ntmps35
    go_wp2
    first | exact ⟨_, rfl, HS.out, HB.out⟩ | (go_ret; exact ⟨_, rfl, HS.out, HB.out⟩)
end

section
open Go.RowKit Go.PlainAid
theorem below_drewN14 {B : Nat} {a w : World} (h : Below B a w) (n : Nat) : Below B a (w.drewN n) := ⟨h.os, h.tape, h.output, h.size, h.block⟩
theorem codesU_len (kd : Int) : (codesU kd).length ≤ 1000000000 := by
  unfold codesU
  split
  · decide
  · split
    · decide
    · decide
set_option maxHeartbeats 16000000 in
set_option maxRecDepth 100000 in
theorem refPut_any (f : Fld) (u : Value) (h : List UInt8) (hv : validT h = true) (hl : h.length ≤ 10000) (w : World) (hu : QL u f.subs w) (hz : f.subs.length ≤ 100000) :
    Calls Tryz.prog 12 #[FV f u, .string (S h)] w fun e w' => ∃ v', e = .returned (FV (putX f h) v') ∧ QL v' (putX f h).subs w' ∧ Below w.heap.size w w' := by
  obtain ⟨Q, hQ⟩ : ∃ Q, (fun (e : Ending) (w' : World) => ∃ v', e = .returned (FV (putX f h) v') ∧ QL v' (putX f h).subs w' ∧ Below w.heap.size w w') = Q := ⟨_, rfl⟩
  rw [hQ]
  obtain ⟨a, cap, hua, hcap, hmax⟩ := hu.length
  obtain ⟨W0, hW0⟩ : ∃ W0, (w.alloc (.cells #[.string (S f.tag), .string (S f.ind), u, .int .i64 f.auth] 24)).alloc (.cells #[.string ⟨#[]⟩, .string ⟨#[]⟩, .slice none 0 0, .int .i64 0] 24) = W0 := ⟨_, rfl⟩
  have b0 : Below w.heap.size w W0 := by rw [← hW0]; exact ((Below.refl w.heap.size w).alloc (Nat.le_refl _) _).alloc (by simp) _
  have hsz0 : W0.heap.size = w.heap.size + 2 := by rw [← hW0]; simp
  have hF : W0.heap[w.heap.size]? = some (.cells #[.string (S f.tag), .string (S f.ind), u, .int .i64 f.auth] 24 (0, 0)) := by
    rw [← hW0]
    exact (Below.heap_alloc _ _ _ (by simp)).trans (heap_alloc_new w _)
  have hR : W0.heap[w.heap.size + 1]? = some (.cells #[.string ⟨#[]⟩, .string ⟨#[]⟩, .slice none 0 0, .int .i64 0] 24 (0, 0)) := by
    rw [← hW0]
    have := heap_alloc_new (w.alloc (.cells #[.string (S f.tag), .string (S f.ind), u, .int .i64 f.auth] 24)) (.cells #[.string ⟨#[]⟩, .string ⟨#[]⟩, .slice none 0 0, .int .i64 0] 24)
    simpa using this
  have HF := Lib.hid (fun (W : World) (h : Below (w.heap.size + 2) W0 W) => (h.block w.heap.size (by omega)).trans hF)
  have HR := Lib.hid (fun (W : World) (h : Below (w.heap.size + 2) W0 W) => (h.block (w.heap.size + 1) (by omega)).trans hR)
  have HB0 := Lib.hid b0
  have HSz := Lib.hid hsz0
  have HW0 := Lib.hid hW0
  have HU := Lib.hid (fun (W : World) (h : Below w.heap.size w W) => hu.after h)
  obtain ⟨kd, hkd⟩ : ∃ kd, kindX f.tag = kd := ⟨_, rfl⟩
  have cK := Lib.hid (refKind_any f.tag W0)
  rw [hkd] at cK
  obtain ⟨⟨p0, p1, p2, p3⟩, -⟩ := fcells4 hF
  -- where it ends: W1 holds the row, both boxes stand
  have HEnd : RowKit.Hid (∀ (ao : Option Addr) (n cp : Nat) W1, W1.heap[w.heap.size + 1]? = some (.cells #[.string ⟨#[]⟩, .string ⟨#[]⟩, .slice none 0 0, .int .i64 0] 24 (0, 0)) → QL (.slice ao n cp) (putU kd f.subs h) (setF4 W1 (w.heap.size + 1) (.string (S f.tag)) (.string (S f.ind)) (.slice ao n cp) (.int .i64 f.auth)) → Below w.heap.size w W1 →
      (setF4 W1 (w.heap.size + 1) (.string (S f.tag)) (.string (S f.ind)) (.slice ao n cp) (.int .i64 f.auth)).heap[w.heap.size + 1]? = some (.cells #[.string (S f.tag), .string (S f.ind), .slice ao n cp, .int .i64 f.auth] 24 (0, 0)) ∧
      Q (.returned (.agg #[.string (S f.tag), .string (S f.ind), .slice ao n cp, .int .i64 f.auth])) (setF4 W1 (w.heap.size + 1) (.string (S f.tag)) (.string (S f.ind)) (.slice ao n cp) (.int .i64 f.auth))) := by
    intro ao n cp W1 hR1 hs hb
    refine ⟨setF4_heap hR1, ?_⟩
    rw [← hQ]
    refine ⟨_, rfl, ?_, setF4_below hb (Nat.le_succ _) _ _ _ _⟩
    show QL _ (putU (kindX f.tag) f.subs h) _
    rw [hkd]
    exact hs
  have cH := Lib.hid (fun (W : World) => refCodes_any kd W)
  have cS := Lib.hid (fun (W : World) => refSubs_any kd h hv hl W)
  have HSE := Lib.hid (fun (W : World) (v a b c d : Value) (hs : SB (w.heap.size + 2) v (putU kd f.subs h) W) => (hs.kept (W := setF4 W (w.heap.size + 1) a b c d) (fun i hi _ => setF4_other _ _ _ _ i (by omega))).ql)
  have HQS := Lib.hid (fun (W : World) (a b c d : Value) (hb : Below w.heap.size w W) (h2 : w.heap.size ≤ w.heap.size + 1) => hu.after (setF4_below hb h2 a b c d))
  clear hQ hW0 hF hR b0 hsz0 hu
  unfold FV
  subst hua
  unfold setF4 at HEnd HQS HSE
  generalize hsb : f.subs = sb at *
  clear hsb
  generalize hnn : sb.length = n at *
  have HN := Lib.hid hnn
  clear hnn
  generalize S f.tag = t0 at *
  generalize S f.ind = t1 at *
  generalize f.auth = t3 at *
  go_enter Tryz.func12, Tryz.ntmps12
  go_upto_region 1 with fail
  rw [HW0.out]
  clear HW0
  go_wp2_with fail
  refine cK.out.mono ?_
  rintro e w1 ⟨rfl, hb1⟩
  have HB1 : RowKit.Hid (Below w.heap.size w w1) := HB0.out.trans (hb1.mono HB0.out.size)
  have HBx : RowKit.Hid (Below (w.heap.size + 2) W0 w1) := hb1.mono (by have := HSz.out; omega)
  clear hb1 cK p0 p1 p2 p3
  obtain ⟨⟨p0, p1, p2, p3⟩, q0, q1, q2, q3⟩ := fcells4 (HF.out w1 HBx.out)
  obtain ⟨⟨r0, r1, r2, r3⟩, s0, s1, s2, s3⟩ := fcells4 (HR.out w1 HBx.out)
  by_cases h0 : kd = 0
  · subst h0
    have hp : putU 0 sb h = sb := by unfold putU; rw [if_pos rfl]
    rw [hp] at HEnd
    obtain ⟨hfin, hg⟩ := HEnd.out a n cap w1 (HR.out w1 HBx.out) (HQS.out w1 _ _ _ _ HB1.out (Nat.le_succ _)) HB1.out
    have HFin := Lib.hid hfin
    have HG := Lib.hid hg
    clear hfin hg HEnd cS cH HQS HSE
    go_wp2
    (try simp only [Exit.inBlock, Exit.then])
    refine bodyPost_ret (results_cell_row rfl _ _ (w.heap.size + 1) _ _ _ _ rfl HFin.out Tryz.underlying24 rfl (by kernel_rfl)) rfl ?_
    exact HG.out
  have t0' : (kd == 0) = false := by simpa using h0
  have c1 := Lib.hid (cS.out w1)
  have HPu : RowKit.Hid (putU kd sb h = subsU kd h ++ keepU kd sb) := by
    unfold RowKit.Hid putU
    rw [if_neg h0]
    rfl
  have hsl := subsU_len kd h
  have cO := Lib.hid (fun (c : UInt8) (W : World) => refOccurs_any c (codesU kd) (codesU_len kd) W)
  clear cS h0 HQS
  generalize S (codesU kd) = cs at *
  go_wp2_with fail
  refine c1.out.mono ?_
  rintro e w3 ⟨v, rfl, hs, hb3⟩
  have HB3 : RowKit.Hid (Below w.heap.size w w3) := HB1.out.trans (hb3.mono HB1.out.size)
  have HB3x : RowKit.Hid (Below (w.heap.size + 2) W0 w3) := HBx.out.trans (hb3.mono (by have := HBx.out.size; have := HSz.out; omega))
  have HS3 : RowKit.Hid (SB (w.heap.size + 2) v (subsU kd h ++ keepU kd (sb.take 0)) w3) := by
    have e : subsU kd h ++ keepU kd (sb.take 0) = subsU kd h := by simp [keepU]
    rw [e]
    exact hs.base (by have := HBx.out.size; have := HSz.out; omega)
  clear p0 p1 p2 p3 q0 q1 q2 q3 r0 r1 r2 r3 s0 s1 s2 s3 hs hb3 c1
  obtain ⟨⟨p0, p1, p2, p3⟩, -⟩ := fcells4 (HF.out w3 HB3x.out)
  go_wp2
  clear p0 p1 p2 p3
  go_loopw [6, 7] (fun s6 s7 wr => ∃ k : Nat, s7 = .int .i64 (k : Int) ∧ k ≤ n ∧ RowKit.Hid (SB (w.heap.size + 2) s6 (subsU kd h ++ keepU kd (sb.take k)) wr) ∧ RowKit.Hid (Below w.heap.size w wr ∧ Below (w.heap.size + 2) W0 wr)) (fun _ s7 _ => n - (intOf s7).toNat)
  case atStart => exact ⟨0, rfl, Nat.zero_le _, HS3.out, HB3.out, HB3x.out⟩
  case round =>
    obtain ⟨k, rfl, hk, HS, HB⟩ := hrel
    clear HS3
    obtain ⟨⟨p0, p1, p2, p3⟩, q0, q1, q2, q3⟩ := fcells4 (HF.out wr HB.out.2)
    by_cases hkn : k < n
    · have i1 : (0 : Int) ≤ (k : Int) := by omega
      have i2 : (k : Int) < (n : Int) := by omega
      have hqu := HU.out wr HB.out.1
      obtain ⟨au, cpu, he, -, -, -, hx⟩ := id hqu
      obtain ⟨rfl, -, rfl⟩ := Value.slice.inj he
      obtain ⟨g, o, rfl, hg, c1, c2⟩ := hx k (by rw [HN.out]; exact hkn)
      have hsn := keepU_snoc kd sb k (by rw [HN.out]; exact hkn)
      have hlen : (keepU kd (sb.take k)).length ≤ k := Nat.le_trans (keepU_len kd _) (by rw [List.length_take]; omega)
      obtain ⟨⟨sc, sv⟩, hsub⟩ : ∃ z, sb.getD k sub0 = z := ⟨_, rfl⟩
      rw [hsub] at c1 c2 hsn
      have HLen := Lib.hid hlen
      have HSl := Lib.hid hsl
      have HBd := Lib.hid (fun d => And.intro (below_drewN14 HB.out.1 d) (below_drewN14 HB.out.2 d))
      have HSd := Lib.hid (fun d => HS.out.after (below_drewN14 (Below.refl wr.heap.size wr) d))
      have hs2 : w.heap.size + 2 ≤ wr.heap.size := by have := HB.out.2.size; have := HSz.out; omega
      have HS2 := Lib.hid hs2
      have co := Lib.hid (fun W => cO.out sc W)
      clear hqu he hx hg hsub hlen HS HB hsl hs2
      obtain ⟨M, hM⟩ : ∃ M, subsU kd h ++ keepU kd (sb.take k) = M := ⟨_, rfl⟩
      have HML : RowKit.Hid (M.length ≤ 1000000) := by
        have := HLen.out
        have := HSl.out
        unfold RowKit.Hid
        rw [← hM, List.length_append]
        omega
      rw [hM] at HSd
      by_cases hc : sc ∈ codesU kd
      · rw [show decide (sc ∈ codesU kd) = true from decide_eq_true hc] at co
        rw [if_neg (fun g => g hc), List.append_nil] at hsn
        have HSn : RowKit.Hid (subsU kd h ++ keepU kd (sb.take (k + 1)) = M) := by
          unfold RowKit.Hid
          rw [hsn, hM]
        clear hsn hM hc
        go_wp2_with fail
        go_quiet (first | (go_at_call 37; exact Calls.quiet_of_same (cH.out _)) | (go_at_call 36; exact Calls.quiet_of_same (co.out _)))
        go_wp2
        go_roundw
        case rel => exact ⟨k + 1, by go_num, by omega, by rw [HSn.out]; exact HSd.out _, HBd.out _⟩
        case measure => simp [intOf]; omega
      · rw [show decide (sc ∈ codesU kd) = false from decide_eq_false hc] at co
        rw [if_pos hc] at hsn
        have HSn : RowKit.Hid (subsU kd h ++ keepU kd (sb.take (k + 1)) = M ++ [(sc, sv)]) := by
          unfold RowKit.Hid
          rw [hsn, ← hM, List.append_assoc]
        clear hsn hM hc
        go_wp2_with fail
        go_quiet (first | (go_at_call 37; exact Calls.quiet_of_same (cH.out _)) | (go_at_call 36; exact Calls.quiet_of_same (co.out _)))
        go_wp2_with (at_builtin; refine append_sb _ rfl _ _ rfl (w.heap.size + 2) u6 M sc sv rfl (HSd.out _) rfl (by have := HML.out; omega) HS2.out (w.heap.size + 2) W0 (Nat.le_refl _) (HBd.out _).2 ?_; intro v' w' hs' hb' hB')
        have HS3 : RowKit.Hid (SB (w.heap.size + 2) v' (subsU kd h ++ keepU kd (sb.take (k + 1))) w') := by rw [HSn.out]; exact hs'
        have HB3 : RowKit.Hid (Below w.heap.size w w' ∧ Below (w.heap.size + 2) W0 w') := ⟨HB0.out.trans (hb'.mono (Nat.le_add_right _ _)), hb'⟩
        clear hs' hb' hB' HSd HBd HSn
        go_wp2
        go_roundw
        case rel => exact ⟨k + 1, by go_num, by omega, HS3.out, HB3.out⟩
        case measure => simp [intOf]; omega
    · obtain rfl : k = n := by omega
      have hT : sb.take k = sb := by rw [← HN.out, List.take_length]
      rw [hT, ← HPu.out] at HS
      have hRr := HR.out wr HB.out.2
      obtain ⟨⟨r0, r1, r2, r3⟩, s0, s1, s2, s3⟩ := fcells4 hRr
      obtain ⟨ao, cp, rfl⟩ := HS.out.form
      obtain ⟨hfin, hg⟩ := HEnd.out ao _ cp wr hRr (HSE.out wr _ _ _ _ _ HS.out) HB.out.1
      have HFin := Lib.hid hfin
      have HG := Lib.hid hg
      clear hfin hg HEnd hRr HS HB HSE
      generalize (putU kd sb h).length = m at *
      go_wp2
      (try simp only [Exit.inBlock, Exit.then])
      refine bodyPost_ret (results_cell_row rfl _ _ (w.heap.size + 1) _ _ _ _ rfl HFin.out Tryz.underlying24 rfl (by kernel_rfl)) rfl ?_
      exact HG.out
end

section
open Go.RowKit Go.PlainAid
def FW14 (G : Fld) (u : Value) (w : World) : Prop := ∃ v, u = FV G v ∧ QL v G.subs w
def SP.fv14 (G : Fld) : SP := ⟨fun v w => FW14 G v w, fun _ _ _ h hb => by obtain ⟨v, h1, h2⟩ := h; exact ⟨v, h1, h2.after hb⟩⟩
def shortB (l : List UInt8) : Bool := decide (1 ≤ l.length) && decide (l.length ≤ 300) && validT l
theorem short14_any (l : List UInt8) (b : Bool) (hb : shortB l = b) (w : World) :
    Calls Tryz.prog 8 #[.string (S l)] w fun e w' => e = .returned (.bool b) ∧ Below w.heap.size w w' := by
  obtain ⟨n, hn⟩ : ∃ n, l.length = n := ⟨_, rfl⟩
  have hsz : (S l).size = n := by rw [S_size, hn]
  have HR := Lib.hid (Below.refl w.heap.size w)
  unfold shortB at hb
  rw [hn] at hb
  by_cases h1 : 1 ≤ n
  · rw [decide_eq_true h1, Bool.true_and] at hb
    by_cases h3 : n ≤ 300
    · rw [decide_eq_true h3, Bool.true_and] at hb
      have cV := Lib.hid (refValid_any (S l) (by rw [hsz]; omega) w)
      rw [S_list, hb] at cV
      clear hb hn HR
      have t1 : decide ((1 : Int) ≤ (n : Int)) = true := decide_eq_true (by omega)
      have t3 : decide ((n : Int) ≤ 300) = true := decide_eq_true (by omega)
      have t1n : decide (1 ≤ n) = true := decide_eq_true h1
      have t3n : decide (n ≤ 300) = true := decide_eq_true h3
      generalize S l = s at *
      go_enter Tryz.func8, Tryz.ntmps8
      go_wp2_with fail
      refine cV.out.mono ?_
      rintro e w1 ⟨rfl, hb1⟩
      have B1 := Lib.hid hb1
      clear hb1 cV
      go_wp2
      first | exact ⟨rfl, B1.out⟩ | (go_ret; exact ⟨rfl, B1.out⟩)
    · rw [decide_eq_false h3, Bool.false_and] at hb
      subst hb
      have t1 : decide ((1 : Int) ≤ (n : Int)) = true := decide_eq_true (by omega)
      have t3 : decide ((n : Int) ≤ 300) = false := decide_eq_false (by omega)
      have t1n : decide (1 ≤ n) = true := decide_eq_true h1
      have t3n : decide (n ≤ 300) = false := decide_eq_false h3
      clear hn
      generalize S l = s at *
      go_enter Tryz.func8, Tryz.ntmps8
      go_wp2
      first | exact ⟨rfl, HR.out⟩ | (go_ret; exact ⟨rfl, HR.out⟩)
  · rw [decide_eq_false h1, Bool.false_and, Bool.false_and] at hb
    subst hb
    obtain rfl : n = 0 := by omega
    clear hn h1
    generalize S l = s at *
    go_enter Tryz.func8, Tryz.ntmps8
    go_wp2
    first | exact ⟨rfl, HR.out⟩ | (go_ret; exact ⟨rfl, HR.out⟩)

set_option maxHeartbeats 16000000 in
set_option maxRecDepth 100000 in
theorem lawPuts_any (f : Fld) (u : Value) (h : List UInt8) (w : World) (hE : Env w) (hq : QL u f.subs w) :
    Calls Tryz.prog 3 #[FV f u, .string (S h)] w fun e w' => e = .returned (.bool true) ∧ Below w.heap.size w w' := by
  obtain ⟨W0, hW0⟩ : ∃ W0, w.alloc (.cells #[.string (S f.tag), .string (S f.ind), u, .int .i64 f.auth] 24) = W0 := ⟨_, rfl⟩
  have b0 : Below w.heap.size w W0 := by rw [← hW0]; exact (Below.refl w.heap.size w).alloc (Nat.le_refl _) _
  have hX : W0.heap[w.heap.size]? = some (.cells #[.string (S f.tag), .string (S f.ind), u, .int .i64 f.auth] 24 (0, 0)) := by rw [← hW0]; exact heap_alloc_new w _
  have hlt : w.heap.size < W0.heap.size := by rw [← hW0]; simp
  have HX := Lib.hid (fun (W : World) (h : Below W0.heap.size W0 W) => (h.block w.heap.size hlt).trans hX)
  have HBw := Lib.hid (fun (W : World) (h : Below W0.heap.size W0 W) => b0.trans (h.mono b0.size))
  have cA := Lib.hid (fun (W : World) (h : Below w.heap.size w W) => lalive14_any W (hE.after h))
  obtain ⟨sm, hsm⟩ : ∃ sm, smallFB f = sm := ⟨_, rfl⟩
  have cSm := Lib.hid (refSmallField_any f u W0 (hq.after b0) sm hsm)
  obtain ⟨sh, hsh⟩ : ∃ sh, shortB h = sh := ⟨_, rfl⟩
  have cSh := Lib.hid (fun W => short14_any h sh hsh W)
  obtain ⟨G, hG⟩ : ∃ G, putX f h = G := ⟨_, rfl⟩
  have cP0 := Lib.hid (fun (h1 : validT h = true) (h2 : h.length ≤ 10000) (h3 : f.subs.length ≤ 100000) (W : World) (hb : Below w.heap.size w W) => (pPut_any f u h h1 h2 W (hE.after hb) (hq.after hb) h3).mono (fun e W' (hh : ∃ v', e = .returned (FV (putX f h) v') ∧ SB (W.heap.size + 2) v' (putX f h).subs W' ∧ Below W.heap.size W W') => show ∃ v', e = .returned v' ∧ FW14 (putX f h) v' W' ∧ Below W.heap.size W W' from by
    obtain ⟨v', h1, h2, h3⟩ := hh
    exact ⟨_, h1, ⟨v', rfl, h2.ql⟩, h3⟩))
  have cR0 := Lib.hid (fun (h1 : validT h = true) (h2 : h.length ≤ 10000) (h3 : f.subs.length ≤ 100000) (W : World) (hb : Below w.heap.size w W) => (refPut_any f u h h1 h2 W (hq.after hb) h3).mono (fun e W' (hh : ∃ v', e = .returned (FV (putX f h) v') ∧ QL v' (putX f h).subs W' ∧ Below W.heap.size W W') => show ∃ v', e = .returned v' ∧ FW14 (putX f h) v' W' ∧ Below W.heap.size W W' from by
    obtain ⟨v', h1, h2, h3⟩ := hh
    exact ⟨_, h1, ⟨v', rfl, h2⟩, h3⟩))
  rw [hG] at cP0 cR0
  have cSF := Lib.hid (fun (u v : Value) (W : World) (h1 : FW14 G u W) (h2 : FW14 G v W) => show Calls Tryz.prog 10 #[u, v] W (fun e W' => e = .returned (.bool true) ∧ Below W.heap.size W W') from by
    obtain ⟨u', rfl, h1⟩ := h1
    obtain ⟨v', rfl, h2⟩ := h2
    exact refSame_any G G u' v' W h1 h2 true (by simp [sameB]))
  have HSm : RowKit.Hid (sm = true → f.subs.length ≤ 20) := fun h => by
    rw [h] at hsm
    unfold smallFB at hsm
    rw [Bool.and_eq_true, decide_eq_true_iff] at hsm
    exact hsm.1
  have HSh : RowKit.Hid (sh = true → h.length ≤ 300 ∧ validT h = true) := fun h => by
    rw [h] at hsh
    unfold shortB at hsh
    rw [Bool.and_eq_true, Bool.and_eq_true, decide_eq_true_iff, decide_eq_true_iff] at hsh
    exact ⟨hsh.1.2, hsh.2⟩
  obtain ⟨au, cp, rfl, -, -⟩ := hq.length
  unfold FV at *
  have HW0 := Lib.hid hW0
  obtain ⟨⟨x0, x1, x2, x3⟩, -⟩ := fcells4 hX
  clear hW0 hX hlt b0 hq hE hsm hsh hG
  generalize hn : f.subs.length = n at *
  clear hn
  generalize hl : h.length = m at *
  clear hl
  generalize S f.tag = t0 at *
  generalize S f.ind = t1 at *
  generalize f.auth = t3 at *
  generalize S h = hx at *
  go_enter Tryz.func3, Tryz.ntmps3
  go_upto_region 1 with fail
  rw [HW0.out]
  clear HW0
  go_wp2_with fail
  refine cSm.out.mono ?_
  rintro e w1 ⟨rfl, hb1⟩
  have B1 := Lib.hid hb1
  have c1 := Lib.hid (cA.out w1 (HBw.out w1 hb1))
  have s1 := Lib.hid (cSh.out w1)
  clear hb1 cSm cSh x0 x1 x2 x3
  cases sm
  · go_wp2_with fail
    refine c1.out.mono ?_
    rintro e w2 ⟨rfl, hb⟩
    have B2 := Lib.hid ((HBw.out w1 B1.out).trans (hb.mono (HBw.out w1 B1.out).size))
    clear hb c1 s1
    go_wp2
    first | exact ⟨rfl, B2.out⟩ | (go_ret; exact ⟨rfl, B2.out⟩)
  · have hf20 := HSm.out rfl
    clear HSm c1
    go_wp2_with fail
    refine s1.out.mono ?_
    rintro e w2 ⟨rfl, hb2⟩
    have B2 := Lib.hid (B1.out.trans (hb2.mono B1.out.size))
    have c2 := Lib.hid (cA.out w2 (HBw.out w2 B2.out))
    clear hb2 s1 B1
    cases sh
    · go_wp2_with fail
      refine c2.out.mono ?_
      rintro e w3 ⟨rfl, hb⟩
      have B3 := Lib.hid ((HBw.out w2 B2.out).trans (hb.mono (HBw.out w2 B2.out).size))
      clear hb c2 B2
      go_wp2
      first | exact ⟨rfl, B3.out⟩ | (go_ret; exact ⟨rfl, B3.out⟩)
    obtain ⟨hm3, hvt⟩ := HSh.out rfl
    have cP1 := Lib.hid (cP0.out hvt (by omega) (by omega))
    have cR1 := Lib.hid (cR0.out hvt (by omega) (by omega))
    have HBw2 := Lib.hid (fun (W : World) (h : Below w2.heap.size w2 W) => HBw.out W (B2.out.trans (h.mono B2.out.size)))
    have HBx := Lib.hid (fun (W : World) (h : Below w2.heap.size w2 W) => HX.out W (B2.out.trans (h.mono B2.out.size)))
    have cP := Lib.hid (fun (W : World) (h : Below w2.heap.size w2 W) => cP1.out W (HBw2.out W h))
    have cR := Lib.hid (fun (W : World) (h : Below w2.heap.size w2 W) => cR1.out W (HBw2.out W h))
    have cAv := Lib.hid (fun (W : World) (h : Below w2.heap.size w2 W) => cA.out W (HBw2.out W h))
    clear hf20 cP0 cR0 cP1 cR1 c2 HSh hm3 hvt HX cA
    go_upto_region 3 with fail
    apply wp_region_inv (V := [.eq (.agg #[.string t0, .string t1, .slice au n cp, .int .i64 t3]), .eq (.string hx), .fv14 G, .eq (.agg #[.string t0, .string t1, .slice au n cp, .int .i64 t3]), .eq (.string hx), .fv14 G, .eq (.bool true), .eq (.bool true), .eq (.bool true), .eq (.bool true), .eq (.bool true)])
    case hm => kernel_rfl
    case hd => kernel_rfl
    case hb => kernel_rfl
    case hA =>
      intro vs
      simp only [puts, Act.put, List.setIfInBounds_toArray, List.set_cons_zero, List.set_cons_succ]
      exact rfl
    case hob =>
      refine Obs.cons _ _ _ _ _ _ ?o0 (Obs.cons _ _ _ _ _ _ ?o1 (Obs.cons _ _ _ _ _ _ ?o2 (Obs.cons _ _ _ _ _ _ ?o3 (Obs.cons _ _ _ _ _ _ ?o4 (Obs.cons _ _ _ _ _ _ ?o5 (Obs.cons _ _ _ _ _ _ ?o6 (Obs.cons _ _ _ _ _ _ ?o7 (Obs.cons _ _ _ _ _ _ ?o8 (Obs.cons _ _ _ _ _ _ ?o9 (Obs.cons _ _ _ _ _ _ ?o10 (Obs.nil _ _ _ _ _ _)))))))))))
      case o0 =>
        intro vs W hw hd K hK
        obtain ⟨⟨x0, x1, x2, x3⟩, -⟩ := fcells4 (HBx.out W hw)
        go_simp
        exact hK.out _ _ rfl (Below.refl _ _)
      case o1 =>
        intro vs W hw hd K hK
        go_simp
        exact hK.out _ _ rfl (Below.refl _ _)
      case o2 =>
        intro vs W hw hd K hK
        have h0 : vs 0 = .agg #[.string t0, .string t1, .slice au n cp, .int .i64 t3] := hd 0 (by kernel_rfl)
        have h1 : vs 1 = .string hx := hd 1 (by kernel_rfl)
        simp only [Nat.reduceAdd, h0, h1] at hK ⊢
        go_simp
        refine (cP.out W hw).mono ?_
        rintro e W' ⟨v', rfl, hq, hb'⟩
        exact hK.out _ _ hq hb'
      case o3 =>
        intro vs W hw hd K hK
        obtain ⟨⟨x0, x1, x2, x3⟩, -⟩ := fcells4 (HBx.out W hw)
        go_simp
        exact hK.out _ _ rfl (Below.refl _ _)
      case o4 =>
        intro vs W hw hd K hK
        go_simp
        exact hK.out _ _ rfl (Below.refl _ _)
      case o5 =>
        intro vs W hw hd K hK
        have h3 : vs 3 = .agg #[.string t0, .string t1, .slice au n cp, .int .i64 t3] := hd 3 (by kernel_rfl)
        have h4 : vs 4 = .string hx := hd 4 (by kernel_rfl)
        simp only [Nat.reduceAdd, h3, h4] at hK ⊢
        go_simp
        refine (cR.out W hw).mono ?_
        rintro e W' ⟨v', rfl, hq, hb'⟩
        exact hK.out _ _ hq hb'
      case o6 =>
        intro vs W hw hd K hK
        have h2 : FW14 G (vs 2) W := hd 2 (by kernel_rfl)
        have h5 : FW14 G (vs 5) W := hd 5 (by kernel_rfl)
        simp only [Nat.reduceAdd] at hK ⊢
        go_simp
        refine (cSF.out (vs 2) (vs 5) W h2 h5).mono ?_
        rintro e W' ⟨rfl, hb'⟩
        exact hK.out _ _ rfl hb'
      case o7 =>
        intro vs W hw hd K hK
        have h6 : vs 6 = .bool true := hd 6 (by kernel_rfl)
        simp only [Nat.reduceAdd, h6] at hK ⊢
        go_simp
        exact hK.out _ _ rfl (Below.refl _ _)
      case o8 =>
        intro vs W hw hd K hK
        have h7 : vs 7 = .bool true := hd 7 (by kernel_rfl)
        simp only [Nat.reduceAdd, h7] at hK ⊢
        go_simp
        refine (cAv.out W hw).mono ?_
        rintro e W' ⟨rfl, hb'⟩
        exact hK.out _ _ rfl hb'
      case o9 =>
        intro vs W hw hd K hK
        have h7 : vs 7 = .bool true := hd 7 (by kernel_rfl)
        have h8 : vs 8 = .bool true := hd 8 (by kernel_rfl)
        simp only [Nat.reduceAdd, h7, h8] at hK ⊢
        go_simp
        exact hK.out _ _ rfl (Below.refl _ _)
      case o10 =>
        intro vs W hw hd K hK
        have h9 : vs 9 = .bool true := hd 9 (by kernel_rfl)
        simp only [Nat.reduceAdd, h9] at hK ⊢
        go_simp
        exact hK.out _ _ rfl (Below.refl _ _)
    case hfin =>
      intro vs W hw hd
      have h10 : vs 10 = .bool true := hd 10 (by decide)
      have HG := Lib.hid (HBw2.out W hw)
      simp only [Nat.reduceAdd, h10]
      clear hd h10 hw cP cR cAv cSF HBx HBw2 HBw B2
      go_wp2
      first | exact ⟨rfl, HG.out⟩ | (go_ret; exact ⟨rfl, HG.out⟩)
end

end Go.Proofs.YthjdopnoophigaaGreatDoor

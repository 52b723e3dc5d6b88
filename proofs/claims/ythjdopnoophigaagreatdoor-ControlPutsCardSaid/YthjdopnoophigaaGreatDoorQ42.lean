/- Merged: LC14, RB14, RC14, LD14, RE14. -/
import Derived.Test.YthjdopnoophigaaGreatDoorQ40
import Derived.Test.YthjdopnoophigaaGreatDoorQ41
import Derived.Test.YthjdopnoophigaaGreatDoorQ05
import Derived.Test.YthjdopnoophigaaGreatDoorQ22
import Derived.Test.YthjdopnoophigaaGreatDoorQ33
import Derived.Test.YthjdopnoophigaaGreatDoorQ35
import Derived.Test.YthjdopnoophigaaGreatDoorQ38
import Derived.Test.YthjdopnoophigaaGreatDoorQ04
import Derived.Test.YthjdopnoophigaaGreatDoorQ31
import Derived.Test.YthjdopnoophigaaGreatDoorQ16
import Derived.Test.YthjdopnoophigaaGreatDoorQ29
namespace Go.Proofs.YthjdopnoophigaaGreatDoor

section
open Go.RowKit Go.PlainAid
set_option maxHeartbeats 16000000 in
set_option maxRecDepth 100000 in
theorem lawTurns_any (u : Value) (L : List Rec) (a b : Int) (w : World) (hE : Env w) (hu : RL u L w) :
    Calls Tryz.prog 5 #[u, .int .i64 a, .int .i64 b] w fun e w' => e = .returned (.bool true) ∧ Below w.heap.size w w' := by
  have HU := Lib.hid (fun (W : World) (h : Below w.heap.size w W) => hu.after h)
  have cA := Lib.hid (fun (W : World) (h : Below w.heap.size w W) => lalive14_any W (hE.after h))
  have cS := Lib.hid (refSmallRecords_any L u 20 (by decide) w hu)
  obtain ⟨ua, uc, rfl, hc, hmax⟩ := hu.length
  clear hE hu
  generalize hn : L.length = n at *
  have HN := Lib.hid hn
  clear hn
  go_enter Tryz.func5, Tryz.ntmps5
  go_wp2_with fail
  refine cS.out.mono ?_
  rintro e w1 ⟨sm, rfl, hb1, hsm⟩
  have B1 := Lib.hid hb1
  have HSm := Lib.hid hsm
  have c1 := Lib.hid (cA.out w1 hb1)
  clear hb1 hsm cS
  cases sm
  · go_wp2_with fail
    refine c1.out.mono ?_
    rintro e w2 ⟨rfl, hb⟩
    have B2 := Lib.hid (B1.out.trans (hb.mono B1.out.size))
    clear hb c1
    go_wp2
    first | exact ⟨rfl, B2.out⟩ | (go_ret; exact ⟨rfl, B2.out⟩)
  · obtain ⟨hn20, hsl⟩ := HSm.out rfl
    have hsz := small_list (L := L) (fun i hi => hsl i (by rw [HN.out] at hi; exact hi))
    obtain ⟨M, hM⟩ : ∃ M, L.map (mapRec (turnX a b)) = M := ⟨_, rfl⟩
    have hMl : M.length = n := by rw [← hM, List.length_map]; exact HN.out
    have k2 := pTurn_any a b L _ w1 (HU.out w1 B1.out) (by rw [HN.out]; omega) (fun r hr => ⟨by have := (hsz r hr).1; omega, fun f hf => by have := ((hsz r hr).2 f hf).1; omega⟩)
    have cR0 := fun (W : World) (h : Below w.heap.size w W) => refTurn_any a b L _ W (HU.out W h) (by rw [HN.out]; omega) (fun r hr => by have := (hsz r hr).1; omega)
    rw [hM] at k2
    rw [hM] at cR0
    have K2 := Lib.hid k2
    have cR := Lib.hid cR0
    have HMl := Lib.hid hMl
    clear hn20 hsl hsz hM hMl k2 cR0 c1 HSm
    go_wp2_with fail
    refine K2.out.mono ?_
    rintro e w2 ⟨vm, rfl, hnm, hb⟩
    have hrl := hnm.here
    have B2 := Lib.hid (B1.out.trans (hb.mono B1.out.size))
    have RM2 := Lib.hid hrl
    obtain ⟨am, cm, hvm, -, -⟩ := hrl.length
    rw [HMl.out] at hvm
    subst hvm
    have K3 := Lib.hid (cR.out w2 B2.out)
    clear hnm hrl hb K2 B1 cR
    go_wp2_with fail
    refine K3.out.mono ?_
    rintro e w3 ⟨vr, rfl, hr3, hb⟩
    have B3 := Lib.hid (B2.out.trans (hb.mono B2.out.size))
    have K4 := Lib.hid (refSameRecords_eq M _ vr w3 (RM2.out.after hb) hr3 (fun r => (sameRB_iff r r).2 rfl))
    obtain ⟨ar, cr, hvr, -, -⟩ := hr3.length
    rw [HMl.out] at hvr
    subst hvr
    clear hb hr3 K3 B2 RM2
    go_wp2_with fail
    refine K4.out.mono ?_
    rintro e w4 ⟨rfl, hb⟩
    have B4 := Lib.hid (B3.out.trans (hb.mono B3.out.size))
    have K5 := Lib.hid (cA.out w4 B4.out)
    clear hb K4 B3
    go_wp2_with fail
    refine K5.out.mono ?_
    rintro e w5 ⟨rfl, hb⟩
    have B5 := Lib.hid (B4.out.trans (hb.mono B4.out.size))
    clear hb K5 B4
    go_wp2
    first | exact ⟨rfl, B5.out⟩ | (go_ret; exact ⟨rfl, B5.out⟩)
end

section
open Go.RowKit Go.PlainAid
theorem any_take {α : Type} (p : α → Bool) (d : α) (L : List α) (k : Nat) (hk : k < L.length) : (L.take (k + 1)).any p = ((L.take k).any p || p (L.getD k d)) := by
  have e : L.take (k + 1) = L.take k ++ [L.getD k d] := by
    rw [List.take_succ_eq_append_getElem hk, List.getD_eq_getElem?_getD, List.getElem?_eq_getElem hk]
    rfl
  rw [e, List.any_append]
  simp
theorem any_at {α : Type} (p : α → Bool) (d : α) (L : List α) (k : Nat) (hk : k < L.length) (h : p (L.getD k d) = true) : L.any p = true := by
  rw [List.any_eq_true]
  refine ⟨L.getD k d, ?_, h⟩
  rw [List.getD_eq_getElem?_getD, List.getElem?_eq_getElem hk]
  exact List.getElem_mem _
theorem usesX_step (L : List Rec) (id : Int) (k : Nat) (hk : k < L.length) : usesX (L.take (k + 1)) id = if 0 < id ∧ usesB id (L.getD k rec0) = true then insU (usesX (L.take k) id) (L.getD k rec0).id else usesX (L.take k) id := by
  have e : L.take (k + 1) = L.take k ++ [L.getD k rec0] := by
    rw [List.take_succ_eq_append_getElem hk, List.getD_eq_getElem?_getD, List.getElem?_eq_getElem hk]
    rfl
  rw [e]
  unfold usesX usesU
  rw [List.map_append, List.foldl_append]
  show (if 0 < id ∧ id ∈ (pairU (L.getD k rec0)).2 then _ else _) = _
  have h : (id ∈ (pairU (L.getD k rec0)).2) = (usesB id (L.getD k rec0) = true) := by
    unfold pairU usesB
    rw [eq_iff_iff, List.any_eq_true, List.mem_map]
    exact ⟨fun ⟨f, h1, h2⟩ => ⟨f, h1, decide_eq_true h2⟩, fun ⟨f, h1, h2⟩ => ⟨f, h1, of_decide_eq_true h2⟩⟩
  simp only [h]
  rfl
set_option maxHeartbeats 8000000 in
set_option maxRecDepth 100000 in
theorem refuses_any (r : Rec) (u : Value) (id : Int) (w : World) (hu : FL u r.fields w) (hz : r.fields.length ≤ 100000) :
    Calls Tryz.prog 42 #[RV r u, .int .i64 id] w fun e w' => e = .returned (.bool (usesB id r)) ∧ Below w.heap.size w w' := by
  obtain ⟨Q, hQ⟩ : ∃ Q, (fun (e : Ending) (w' : World) => e = .returned (.bool (usesB id r)) ∧ Below w.heap.size w w') = Q := ⟨_, rfl⟩
  rw [hQ]
  obtain ⟨W0, hW0⟩ : ∃ W0, w.alloc (.cells #[.int .i64 r.id, .int .i64 r.ver, .int .i64 r.kind, .string (S r.lang), u] 33) = W0 := ⟨_, rfl⟩
  have b0 : Below w.heap.size w W0 := by rw [← hW0]; exact (Below.refl w.heap.size w).alloc (Nat.le_refl _) _
  have hX : W0.heap[w.heap.size]? = some (.cells #[.int .i64 r.id, .int .i64 r.ver, .int .i64 r.kind, .string (S r.lang), u] 33 (0, 0)) := by rw [← hW0]; exact heap_alloc_new w _
  have HQ : RowKit.Hid (∀ b, usesB id r = b → Q (.returned (.bool b)) W0) := by
    rw [← hQ]
    rintro b rfl
    exact ⟨rfl, b0⟩
  have HU0 := Lib.hid (hu.after b0)
  obtain ⟨⟨x0, x1, x2, x3, x4⟩, -⟩ := rcells14 hX
  have HW0 := Lib.hid hW0
  obtain ⟨a, cp, hua, hcap, hmax⟩ := hu.length
  unfold maxLen at hmax
  unfold RV
  subst hua
  have HE : RowKit.Hid (usesB id r = r.fields.any fun f => decide (f.auth = id)) := rfl
  generalize usesB id r = res at *
  generalize hL : r.fields = L at *
  clear hQ hu hW0 hX b0 hL
  generalize hn : L.length = n at *
  have HN := Lib.hid hn
  clear hn x0 x1 x2 x3
  generalize S r.lang = lg at *
  go_enter Tryz.func42, Tryz.ntmps42
  go_upto_region 1 with fail
  rw [HW0.out]
  clear HW0
  go_wp2
  go_loopw [5] (fun s5 wr => ∃ k : Nat, s5 = .int .i64 (k : Int) ∧ k ≤ n ∧ RowKit.Hid ((L.take k).any (fun f => decide (f.auth = id)) = false) ∧ wr = W0) (fun s5 _ => n - (intOf s5).toNat)
  case atStart => exact ⟨0, rfl, Nat.zero_le _, (by unfold RowKit.Hid; simp), rfl⟩
  case round =>
    obtain ⟨k, rfl, hk, HJ, hwr⟩ := hrel
    rw [hwr]
    clear hwr
    by_cases hkn : k < n
    · have i1 : (0 : Int) ≤ (k : Int) := by omega
      have i2 : (k : Int) < (n : Int) := by omega
      obtain ⟨g, o, cap', x, he, hg, c0, c1, c2, c3, hq⟩ := HU0.out.at k (by rw [HN.out]; exact hkn)
      obtain ⟨rfl, -, hcp⟩ := Value.slice.inj he
      subst hcp
      have hst := any_take (fun f : Fld => decide (f.auth = id)) fd0 L k (by rw [HN.out]; exact hkn)
      have hat := any_at (fun f : Fld => decide (f.auth = id)) fd0 L k (by rw [HN.out]; exact hkn)
      rw [HJ.out, Bool.false_or] at hst
      have HAt := Lib.hid hat
      have HSt := Lib.hid hst
      clear he hg hq c0 c1 c2 hst hat HJ
      by_cases h : (L.getD k fd0).auth = id
      · have HG := Lib.hid (HQ.out true (by rw [HE.out, HAt.out (decide_eq_true h)]))
        have t : ((L.getD k fd0).auth == id) = true := by simpa using h
        clear HQ HE HAt HSt h
        generalize (L.getD k fd0).auth = y at *
        go_wp2
        first | exact HG.out | (go_ret; exact HG.out)
      · have hs := HSt.out
        rw [decide_eq_false h] at hs
        have HS := Lib.hid hs
        have t : ((L.getD k fd0).auth == id) = false := by simpa using h
        clear HAt HSt h hs
        generalize (L.getD k fd0).auth = y at *
        go_wp2
        go_roundw
        case rel => exact ⟨k + 1, by go_num, by omega, HS.out, trivial⟩
        case measure => simp [intOf]; omega
    · obtain rfl : k = n := by omega
      have hT : L.take k = L := by rw [← HN.out, List.take_length]
      rw [hT] at HJ
      have HG := Lib.hid (HQ.out false (by rw [HE.out, HJ.out]))
      clear HQ HE HJ
      go_wp2
      first | exact HG.out | (go_ret; exact HG.out)
set_option maxHeartbeats 16000000 in
set_option maxRecDepth 100000 in
theorem refUses_any (L : List Rec) (u : Value) (id : Int) (w : World) (hu : RL u L w) (hz : L.length ≤ 100000) (hf : ∀ r ∈ L, r.fields.length ≤ 100000) :
    Calls Tryz.prog 19 #[u, .int .i64 id] w fun e w' => ∃ v', e = .returned v' ∧ IL v' (usesX L id) w' ∧ Below w.heap.size w w' := by
  obtain ⟨Q, hQ⟩ : ∃ Q, (fun (e : Ending) (w' : World) => ∃ v', e = .returned v' ∧ IL v' (usesX L id) w' ∧ Below w.heap.size w w') = Q := ⟨_, rfl⟩
  rw [hQ]
  have HQ : RowKit.Hid (∀ v' W, IL v' (usesX L id) W → Below w.heap.size w W → Q (.returned v') W) := by
    rw [← hQ]
    exact fun v' W h1 h2 => ⟨v', rfl, h1, h2⟩
  have HU := Lib.hid (fun (W : World) (h : Below w.heap.size w W) => hu.after h)
  have cU := Lib.hid (fun (r : Rec) (x : Value) (W : World) (hx : FL x r.fields W) (hr : r ∈ L) => refuses_any r x id W hx (hf r hr))
  have HR0 := Lib.hid (IR.empty w).il
  have HB0 := Lib.hid ((Below.refl w.heap.size w).alloc (Nat.le_refl _) (.cells #[] 3))
  obtain ⟨a, cp, hua, hcap, hmax⟩ := hu.length
  unfold maxLen at hmax
  subst hua
  clear hQ hu hf
  generalize hn : L.length = n at *
  have HN := Lib.hid hn
  clear hn
  have hU0 : usesX (L.take 0) id = [] := rfl
  go_enter Tryz.func19, Tryz.ntmps19
  go_wp2
  go_loopw [5, 6] (fun s5 s6 wr => ∃ k : Nat, s6 = .int .i64 (k : Int) ∧ k ≤ n ∧ RowKit.Hid (IL s5 (usesX (L.take k) id) wr) ∧ RowKit.Hid (Below w.heap.size w wr)) (fun _ s6 _ => n - (intOf s6).toNat)
  case atStart => exact ⟨0, rfl, Nat.zero_le _, by rw [hU0]; exact HR0.out, HB0.out⟩
  case round =>
    obtain ⟨k, rfl, hk, HI, HB⟩ := hrel
    clear hU0 HR0 HB0
    by_cases hkn : k < n
    · have i1 : (0 : Int) ≤ (k : Int) := by omega
      have i2 : (k : Int) < (n : Int) := by omega
      have hRd : RowKit.Hid (∀ W, Below w.heap.size w W → ∃ g o x, a = some ⟨g, o, none⟩ ∧ W.cell? ⟨g, o + k * 5, none⟩ = some (.int .i64 (L.getD k rec0).id) ∧ W.cell? ⟨g, o + k * 5 + 1, none⟩ = some (.int .i64 (L.getD k rec0).ver) ∧ W.cell? ⟨g, o + k * 5 + 2, none⟩ = some (.int .i64 (L.getD k rec0).kind) ∧ W.cell? ⟨g, o + k * 5 + 3, none⟩ = some (.string (S (L.getD k rec0).lang)) ∧ W.cell? ⟨g, o + k * 5 + 4, none⟩ = some x ∧ FL x (L.getD k rec0).fields W) := by
        intro W hW
        obtain ⟨g, o, cap', x, he, hg, h⟩ := (HU.out W hW).at k (by rw [HN.out]; exact hkn)
        obtain ⟨rfl, -, -⟩ := Value.slice.inj he
        exact ⟨g, o, x, rfl, h⟩
      obtain ⟨g, o, x, rfl, c0, c1, c2, c3, c4, hq⟩ := hRd.out wr HB.out
      have hmem : L.getD k rec0 ∈ L := by
        rw [List.getD_eq_getElem?_getD, List.getElem?_eq_getElem (by rw [HN.out]; exact hkn)]
        exact List.getElem_mem _
      have hst := usesX_step L id k (by rw [HN.out]; exact hkn)
      have hlen : (usesX (L.take k) id).length ≤ 100000 := by
        have := usesX_len (L.take k) id
        rw [List.length_take] at this
        omega
      have HId : RowKit.Hid (∀ W, Below w.heap.size w W → W.cell? ⟨g, o + k * 5, none⟩ = some (.int .i64 (L.getD k rec0).id)) := by
        intro W hW
        obtain ⟨g', o', x', he, h, _⟩ := hRd.out W hW
        obtain ⟨rfl, rfl, -⟩ := Addr.mk.inj (Option.some.inj he)
        exact h
      obtain ⟨r, hr⟩ : ∃ r, L.getD k rec0 = r := ⟨_, rfl⟩
      rw [hr] at c0 c1 c2 c3 hq hst hmem HId
      have cl := Lib.hid (cU.out r x wr hq hmem)
      obtain ⟨ax, cx, hxv, -, -⟩ := hq.length
      obtain ⟨M, hM⟩ : ∃ M, usesX (L.take k) id = M := ⟨_, rfl⟩
      rw [hM] at hst hlen HI
      have HSt := Lib.hid hst
      have cI := Lib.hid (fun (v : Value) (W : World) (h : IL v M W) => refInserted_any v M r.id W h (by omega))
      unfold RV at cl
      subst hxv
      clear hq hst hmem hr hM hRd
      generalize r.fields.length = nx at *
      by_cases hid : 0 < id
      · have t0 : decide (0 < id) = true := decide_eq_true hid
        generalize hub : usesB id r = ub at *
        clear hub
        generalize S r.lang = lg at *
        generalize r.id = rid at *
        generalize r.ver = rver at *
        generalize r.kind = rkind at *
        go_wp2_with fail
        refine cl.out.mono ?_
        rintro e w5 ⟨rfl, hb5⟩
        have HB5 := Lib.hid (HB.out.trans (hb5.mono HB.out.size))
        have HI5 := Lib.hid (HI.out.after hb5)
        clear hb5 HB HI cl c0 c1 c2 c3 c4
        cases ub
        · have hs := HSt.out
          rw [if_neg (fun h => by cases h.2)] at hs
          have HS := Lib.hid hs
          clear hs HSt hid cI
          go_wp2
          go_roundw
          case rel => exact ⟨k + 1, by go_num, by omega, by rw [HS.out]; exact HI5.out, HB5.out⟩
          case measure => simp [intOf]; omega
        · have hs := HSt.out
          rw [if_pos ⟨hid, rfl⟩] at hs
          have HS := Lib.hid hs
          have c0 := HId.out w5 HB5.out
          have ci := Lib.hid (cI.out u5 w5 HI5.out)
          clear hs HSt hid cI HId
          go_wp2_with fail
          refine ci.out.mono ?_
          rintro e w6 ⟨v6, rfl, hi6, hb6⟩
          have HB6 := Lib.hid (HB5.out.trans (hb6.mono HB5.out.size))
          have HI6 := Lib.hid hi6
          clear hi6 hb6 ci HB5 HI5 c0
          go_wp2
          go_roundw
          case rel => exact ⟨k + 1, by go_num, by omega, by rw [HS.out]; exact HI6.out, HB6.out⟩
          case measure => simp [intOf]; omega
      · have t0 : decide (0 < id) = false := decide_eq_false hid
        have hs := HSt.out
        rw [if_neg (fun h => hid h.1)] at hs
        have HS := Lib.hid hs
        clear hs HSt hid cI cl c0 c1 c2 c3 c4 HId
        go_wp2
        go_roundw
        case rel => exact ⟨k + 1, by go_num, by omega, by rw [HS.out]; exact HI.out, HB.out⟩
        case measure => simp [intOf]; omega
    · obtain rfl : k = n := by omega
      have hT : L.take k = L := by rw [← HN.out, List.take_length]
      rw [hT] at HI
      have HG := Lib.hid (HQ.out _ wr HI.out HB.out)
      clear HI HB HQ
      go_wp2
      first | exact HG.out | (go_ret; exact HG.out)
end

section
open Go.RowKit Go.PlainAid
set_option maxHeartbeats 16000000 in
set_option maxRecDepth 100000 in
theorem refLoose_any (r : Rec) (u : Value) (w : World) (hu : FL u r.fields w) (hz : r.fields.length ≤ 100000) :
    Calls Tryz.prog 17 #[RV r u] w fun e w' => ∃ v', e = .returned v' ∧ IL v' (looseL r.fields 0) w' ∧ Below w.heap.size w w' := by
  obtain ⟨Q, hQ⟩ : ∃ Q, (fun (e : Ending) (w' : World) => ∃ v', e = .returned v' ∧ IL v' (looseL r.fields 0) w' ∧ Below w.heap.size w w') = Q := ⟨_, rfl⟩
  rw [hQ]
  have HQ : RowKit.Hid (∀ v' W, IR w.heap.size v' (looseL r.fields 0) W → Below w.heap.size w W → Q (.returned v') W) := by
    rw [← hQ]
    exact fun v' W h1 h2 => ⟨v', rfl, h1.il, h2⟩
  obtain ⟨W0, hW0⟩ : ∃ W0, (w.alloc (.cells #[.int .i64 r.id, .int .i64 r.ver, .int .i64 r.kind, .string (S r.lang), u] 33)) = W0 := ⟨_, rfl⟩
  have b0 : Below w.heap.size w W0 := by rw [← hW0]; exact (Below.refl w.heap.size w).alloc (Nat.le_refl _) _
  have hX : W0.heap[w.heap.size]? = some (.cells #[.int .i64 r.id, .int .i64 r.ver, .int .i64 r.kind, .string (S r.lang), u] 33 (0, 0)) := by rw [← hW0]; exact heap_alloc_new w _
  have hlt : w.heap.size < W0.heap.size := by rw [← hW0]; simp
  have HX := Lib.hid (fun (W : World) (h : Below W0.heap.size W0 W) => (h.block w.heap.size hlt).trans hX)
  have HBw := Lib.hid (fun (W : World) (h : Below W0.heap.size W0 W) => b0.trans (h.mono b0.size))
  have HU := Lib.hid (fun (W : World) (h : Below w.heap.size w W) => hu.after h)
  have HR0 := Lib.hid (IR.empty W0)
  have HB0 := Lib.hid ((Below.refl W0.heap.size W0).alloc (Nat.le_refl _) (.cells #[] 3))
  have HW0 := Lib.hid hW0
  have HSz := Lib.hid b0.size
  obtain ⟨a, cp, hua, hcap, hmax⟩ := hu.length
  unfold maxLen at hmax
  unfold RV
  subst hua
  generalize hL : r.fields = L at *
  clear hQ hu hW0 hX b0 hL hlt
  generalize hn : L.length = n at *
  have HN := Lib.hid hn
  clear hn
  generalize S r.lang = lg at *
  go_enter Tryz.func17, Tryz.ntmps17
  go_upto_region 1 with fail
  rw [HW0.out]
  clear HW0
  go_wp2
  go_loopw [3, 4] (fun s3 s4 wr => ∃ k : Nat, s4 = .int .i64 (k : Int) ∧ k ≤ n ∧ RowKit.Hid (IR W0.heap.size s3 (looseL (L.take k) 0) wr) ∧ RowKit.Hid (Below W0.heap.size W0 wr)) (fun _ s4 _ => n - (intOf s4).toNat)
  case atStart => exact ⟨0, rfl, Nat.zero_le _, HR0.out, HB0.out⟩
  case round =>
    obtain ⟨k, rfl, hk, HI, HB⟩ := hrel
    clear HR0 HB0
    obtain ⟨⟨x0, x1, x2, x3, x4⟩, -⟩ := rcells14 (HX.out wr HB.out)
    by_cases hkn : k < n
    · have i1 : (0 : Int) ≤ (k : Int) := by omega
      have i2 : (k : Int) < (n : Int) := by omega
      have HRd : RowKit.Hid (∀ W, Below w.heap.size w W → ∃ g o, a = some ⟨g, o, none⟩ ∧ W.cell? ⟨g, o + k * 4, none⟩ = some (.string (S (L.getD k fd0).tag)) ∧ W.cell? ⟨g, o + k * 4 + 3, none⟩ = some (.int .i64 (L.getD k fd0).auth)) := by
        intro W hW
        obtain ⟨g, o, cap', x, he, hg, h0, h1, h2, h3, _⟩ := (HU.out W hW).at k (by rw [HN.out]; exact hkn)
        obtain ⟨rfl, -, -⟩ := Value.slice.inj he
        exact ⟨g, o, rfl, h0, h3⟩
      obtain ⟨g, o, rfl, c0, c3⟩ := HRd.out wr (HBw.out wr HB.out)
      have hsn := looseL_take L k (by rw [HN.out]; exact hkn)
      have hlen : (looseL (L.take k) 0).length ≤ 100000 := by
        have := looseL_len (L.take k) 0
        rw [List.length_take] at this
        omega
      have HC3 : RowKit.Hid (∀ W, Below w.heap.size w W → W.cell? ⟨g, o + k * 4 + 3, none⟩ = some (.int .i64 (L.getD k fd0).auth)) := by
        intro W hW
        obtain ⟨g', o', he, _, h3⟩ := HRd.out W hW
        obtain ⟨rfl, rfl, -⟩ := Addr.mk.inj (Option.some.inj he)
        exact h3
      obtain ⟨f, hf⟩ : ∃ f, L.getD k fd0 = f := ⟨_, rfl⟩
      rw [hf] at c0 c3 hsn HC3
      have hkr := kindX_range f.tag
      have hlo : looseX f = (decide (f.auth = 0) && !decide (kindX f.tag = 0)) := rfl
      obtain ⟨M, hM⟩ : ∃ M, looseL (L.take k) 0 = M := ⟨_, rfl⟩
      rw [hM] at hsn hlen HI
      rw [hlo] at hsn
      have HSn := Lib.hid hsn
      have HLen := Lib.hid hlen
      have cK := Lib.hid (refKind_any f.tag wr)
      clear hsn hlen hM hlo hf HRd
      generalize kindX f.tag = kd at *
      generalize S f.tag = t0 at *
      generalize f.auth = t3 at *
      go_wp2_with fail
      refine cK.out.mono ?_
      rintro e w5 ⟨rfl, hb5⟩
      have HB5 := Lib.hid (HB.out.trans (hb5.mono HB.out.size))
      have HI5 := Lib.hid (HI.out.after hb5)
      have c3 := HC3.out w5 (HBw.out w5 HB5.out)
      obtain ⟨⟨z0, z1, z2, z3, z4⟩, -⟩ := rcells14 (HX.out w5 HB5.out)
      clear hb5 HB HI cK c0 x0 x1 x2 x3 x4
      by_cases hk0 : kd = 0
      · have hs := HSn.out
        rw [decide_eq_true hk0, Bool.not_true, Bool.and_false, if_neg (by decide), List.append_nil] at hs
        have HS := Lib.hid hs
        have t : decide (0 < kd) = false := decide_eq_false (by omega)
        clear hs HSn hk0 hkr
        go_wp2
        go_roundw
        case rel => exact ⟨k + 1, by go_num, by omega, by rw [HS.out]; exact HI5.out, HB5.out⟩
        case measure => simp [intOf]; omega
      · have t : decide (0 < kd) = true := decide_eq_true (by omega)
        have hs := HSn.out
        rw [decide_eq_false hk0, Bool.not_false, Bool.and_true] at hs
        by_cases h3 : t3 = 0
        · rw [decide_eq_true h3, if_pos rfl] at hs
          have HS := Lib.hid hs
          have t' : (t3 == 0) = true := by simpa using h3
          clear hs HSn hk0 hkr h3
          go_wp2_with (at_builtin; refine append_ir _ rfl _ _ rfl W0.heap.size u3 M (k : Int) rfl HI5.out rfl (by have := HLen.out; omega) HB5.out.size W0.heap.size W0 (Nat.le_refl _) HB5.out ?_; intro v' w' hs' hb' hB')
          have HS2 := Lib.hid hs'
          have HB2 := Lib.hid hb'
          clear hs' hb' hB' HI5 HB5
          go_wp2
          go_roundw
          case rel => exact ⟨k + 1, by go_num, by omega, by rw [HS.out]; exact HS2.out, HB2.out⟩
          case measure => simp [intOf]; omega
        · rw [decide_eq_false h3, if_neg (by decide), List.append_nil] at hs
          have HS := Lib.hid hs
          have t' : (t3 == 0) = false := by simpa using h3
          clear hs HSn hk0 hkr h3
          go_wp2
          go_roundw
          case rel => exact ⟨k + 1, by go_num, by omega, by rw [HS.out]; exact HI5.out, HB5.out⟩
          case measure => simp [intOf]; omega
    · obtain rfl : k = n := by omega
      have hT : L.take k = L := by rw [← HN.out, List.take_length]
      rw [hT] at HI
      have hI2 : IR w.heap.size u3 (looseL L 0) wr := by
        refine ⟨HI.out.1, ?_⟩
        rcases HI.out.2 with hn | ⟨g, cap, cur, hv, hB', rest⟩
        · exact .inl hn
        · exact .inr ⟨g, cap, cur, hv, Nat.le_trans HSz.out hB', rest⟩
      have HG := Lib.hid (HQ.out _ wr hI2 (HBw.out wr HB.out))
      clear HI HB HQ hI2
      go_wp2
      first | exact HG.out | (go_ret; exact HG.out)
end

section
open Go.RowKit Go.PlainAid
def SP.il14 (l : List Int) : SP := ⟨fun v w => IL v l w, fun _ _ _ h hb => h.after hb⟩
set_option maxHeartbeats 16000000 in
set_option maxRecDepth 100000 in
theorem lawLists_any (r : Rec) (ur : Value) (vl : Value) (L : List Rec) (id : Int) (w : World) (hE : Env w) (hr : FL ur r.fields w) (hv : RL vl L w) :
    Calls Tryz.prog 4 #[RV r ur, vl, .int .i64 id] w fun e w' => e = .returned (.bool true) ∧ Below w.heap.size w w' := by
  obtain ⟨W0, hW0⟩ : ∃ W0, w.alloc (.cells #[.int .i64 r.id, .int .i64 r.ver, .int .i64 r.kind, .string (S r.lang), ur] 33) = W0 := ⟨_, rfl⟩
  have b0 : Below w.heap.size w W0 := by rw [← hW0]; exact (Below.refl w.heap.size w).alloc (Nat.le_refl _) _
  have hX : W0.heap[w.heap.size]? = some (.cells #[.int .i64 r.id, .int .i64 r.ver, .int .i64 r.kind, .string (S r.lang), ur] 33 (0, 0)) := by rw [← hW0]; exact heap_alloc_new w _
  have hlt : w.heap.size < W0.heap.size := by rw [← hW0]; simp
  have HX := Lib.hid (fun (W : World) (h : Below W0.heap.size W0 W) => (h.block w.heap.size hlt).trans hX)
  have HBw := Lib.hid (fun (W : World) (h : Below W0.heap.size W0 W) => b0.trans (h.mono b0.size))
  have HF := Lib.hid (fun (W : World) (h : Below w.heap.size w W) => hr.after h)
  have HV := Lib.hid (fun (W : World) (h : Below w.heap.size w W) => hv.after h)
  have cA := Lib.hid (fun (W : World) (h : Below w.heap.size w W) => lalive14_any W (hE.after h))
  obtain ⟨sm, hsm⟩ : ∃ sm, smallRB r = sm := ⟨_, rfl⟩
  have cSm := Lib.hid (refSmall_any r ur W0 (hr.after b0) sm hsm)
  have cSs := Lib.hid (fun (W : World) (h : Below w.heap.size w W) => refSmallRecords_any L vl 20 (by decide) W (hv.after h))
  have cLo0 := Lib.hid (fun (h : r.fields.length ≤ 100000) (W : World) (hb : Below w.heap.size w W) => pLoose_any r ur W (hE.after hb) (hr.after hb) h)
  have cRo0 := Lib.hid (fun (h : r.fields.length ≤ 100000) (W : World) (hb : Below w.heap.size w W) => refLoose_any r ur W (hr.after hb) h)
  have HSr : RowKit.Hid (sm = true → r.fields.length ≤ 70) := fun h => (small_rec r (hsm.trans h)).1
  obtain ⟨LL, hLL⟩ : ∃ LL, looseL r.fields 0 = LL := ⟨_, rfl⟩
  have hLl : LL.length ≤ r.fields.length := by rw [← hLL]; exact looseL_len _ _
  rw [hLL] at cLo0 cRo0
  obtain ⟨au, cu, hu, -, -⟩ := hr.length
  obtain ⟨al, cl, hvl, -, -⟩ := hv.length
  unfold RV at *
  subst hu hvl
  have HW0 := Lib.hid hW0
  obtain ⟨⟨x0, x1, x2, x3, x4⟩, -⟩ := rcells14 hX
  clear hW0 hX hlt b0 hr hv hE hsm hLL
  generalize hnf : r.fields.length = nf at *
  generalize hn : L.length = n at *
  have HN := Lib.hid hn
  have HLl := Lib.hid hLl
  clear hn hnf hLl
  generalize S r.lang = lg at *
  generalize r.id = rid at *
  generalize r.ver = rver at *
  generalize r.kind = rkind at *
  go_enter Tryz.func4, Tryz.ntmps4
  go_upto_region 1 with fail
  rw [HW0.out]
  clear HW0
  go_wp2_with fail
  refine cSm.out.mono ?_
  rintro e w1 ⟨rfl, hb1⟩
  have B1 := Lib.hid hb1
  have c1 := Lib.hid (cA.out w1 (HBw.out w1 hb1))
  have s1 := Lib.hid (cSs.out w1 (HBw.out w1 hb1))
  clear hb1 cSm cSs x0 x1 x2 x3 x4
  cases sm
  · go_wp2_with fail
    refine c1.out.mono ?_
    rintro e w2 ⟨rfl, hb⟩
    have B2 := Lib.hid ((HBw.out w1 B1.out).trans (hb.mono (HBw.out w1 B1.out).size))
    clear hb c1 s1
    go_wp2
    first | exact ⟨rfl, B2.out⟩ | (go_ret; exact ⟨rfl, B2.out⟩)
  · have hf70 := HSr.out rfl
    have cLo1 := Lib.hid (cLo0.out (by omega))
    have cRo1 := Lib.hid (cRo0.out (by omega))
    clear HSr cLo0 cRo0 c1
    go_wp2_with fail
    refine s1.out.mono ?_
    rintro e w2 ⟨sb, rfl, hb2, hsb⟩
    have B2 := Lib.hid (B1.out.trans (hb2.mono B1.out.size))
    have HSb := Lib.hid hsb
    have c2 := Lib.hid (cA.out w2 (HBw.out w2 B2.out))
    clear hb2 hsb s1 B1
    cases sb
    · go_wp2_with fail
      refine c2.out.mono ?_
      rintro e w3 ⟨rfl, hb⟩
      have B3 := Lib.hid ((HBw.out w2 B2.out).trans (hb.mono (HBw.out w2 B2.out).size))
      clear hb c2 B2
      go_wp2
      first | exact ⟨rfl, B3.out⟩ | (go_ret; exact ⟨rfl, B3.out⟩)
    obtain ⟨hn20, hsl⟩ := HSb.out rfl
    have hsz := small_list (L := L) (fun i hi => hsl i (by rw [HN.out] at hi; exact hi))
    have cUs0 := Lib.hid (fun (W : World) (hb : Below w.heap.size w W) => pUses_any L _ id W (HV.out W hb) (by rw [HN.out]; omega) (fun r hr => by have := (hsz r hr).1; omega))
    have cRu0 := Lib.hid (fun (W : World) (hb : Below w.heap.size w W) => refUses_any L _ id W (HV.out W hb) (by rw [HN.out]; omega) (fun r hr => by have := (hsz r hr).1; omega))
    have hul : (usesX L id).length ≤ 20 := by have := usesX_len L id; rw [HN.out] at this; omega
    obtain ⟨UU, hUU⟩ : ∃ UU, usesX L id = UU := ⟨_, rfl⟩
    rw [hUU] at cUs0 cRu0 hul
    have HBw2 := Lib.hid (fun (W : World) (h : Below w2.heap.size w2 W) => HBw.out W (B2.out.trans (h.mono B2.out.size)))
    have HBx := Lib.hid (fun (W : World) (h : Below w2.heap.size w2 W) => HX.out W (B2.out.trans (h.mono B2.out.size)))
    have cLo := Lib.hid (fun (W : World) (h : Below w2.heap.size w2 W) => cLo1.out W (HBw2.out W h))
    have cRo := Lib.hid (fun (W : World) (h : Below w2.heap.size w2 W) => cRo1.out W (HBw2.out W h))
    have cUs := Lib.hid (fun (W : World) (h : Below w2.heap.size w2 W) => cUs0.out W (HBw2.out W h))
    have cRu := Lib.hid (fun (W : World) (h : Below w2.heap.size w2 W) => cRu0.out W (HBw2.out W h))
    have cAv := Lib.hid (fun (W : World) (h : Below w2.heap.size w2 W) => cA.out W (HBw2.out W h))
    have cSL := Lib.hid (fun (u v : Value) (W : World) (h1 : IL u LL W) (h2 : IL v LL W) => lsame14_any LL u v W h1 h2 (by have := HLl.out; omega))
    have cSU := Lib.hid (fun (u v : Value) (W : World) (h1 : IL u UU W) (h2 : IL v UU W) => lsame14_any UU u v W h1 h2 (by omega))
    clear hf70 cLo1 cRo1 c2 HSb hn20 hsl hsz cUs0 cRu0 hul hUU HX HF HV cA HLl
    go_upto_region 3 with fail
    apply wp_region_inv (V := [.eq (.agg #[.int .i64 rid, .int .i64 rver, .int .i64 rkind, .string lg, .slice au nf cu]), .il14 LL, .eq (.agg #[.int .i64 rid, .int .i64 rver, .int .i64 rkind, .string lg, .slice au nf cu]), .il14 LL, .eq (.bool true), .eq (.bool true), .eq (.slice al n cl), .eq (.int .i64 id), .il14 UU, .eq (.slice al n cl), .eq (.int .i64 id), .il14 UU, .eq (.bool true), .eq (.bool true), .eq (.bool true), .eq (.bool true), .eq (.bool true), .eq (.bool true)])
    case hm => kernel_rfl
    case hd => kernel_rfl
    case hb => kernel_rfl
    case hA =>
      intro vs
      simp only [puts, Act.put, List.setIfInBounds_toArray, List.set_cons_zero, List.set_cons_succ]
      exact rfl
    case hob =>
      refine Obs.cons _ _ _ _ _ _ ?o0 (Obs.cons _ _ _ _ _ _ ?o1 (Obs.cons _ _ _ _ _ _ ?o2 (Obs.cons _ _ _ _ _ _ ?o3 (Obs.cons _ _ _ _ _ _ ?o4 (Obs.cons _ _ _ _ _ _ ?o5 (Obs.cons _ _ _ _ _ _ ?o6 (Obs.cons _ _ _ _ _ _ ?o7 (Obs.cons _ _ _ _ _ _ ?o8 (Obs.cons _ _ _ _ _ _ ?o9 (Obs.cons _ _ _ _ _ _ ?o10 (Obs.cons _ _ _ _ _ _ ?o11 (Obs.cons _ _ _ _ _ _ ?o12 (Obs.cons _ _ _ _ _ _ ?o13 (Obs.cons _ _ _ _ _ _ ?o14 (Obs.cons _ _ _ _ _ _ ?o15 (Obs.cons _ _ _ _ _ _ ?o16 (Obs.cons _ _ _ _ _ _ ?o17 (Obs.nil _ _ _ _ _ _))))))))))))))))))
      case o0 =>
        intro vs W hw hd K hK
        obtain ⟨⟨x0, x1, x2, x3, x4⟩, -⟩ := rcells14 (HBx.out W hw)
        go_simp
        exact hK.out _ _ rfl (Below.refl _ _)
      case o1 =>
        intro vs W hw hd K hK
        have h0 : vs 0 = .agg #[.int .i64 rid, .int .i64 rver, .int .i64 rkind, .string lg, .slice au nf cu] := hd 0 (by kernel_rfl)
        simp only [Nat.reduceAdd, h0] at hK ⊢
        go_simp
        refine (cLo.out W hw).mono ?_
        rintro e W' ⟨v', rfl, hil, hb'⟩
        exact hK.out _ _ hil hb'
      case o2 =>
        intro vs W hw hd K hK
        obtain ⟨⟨x0, x1, x2, x3, x4⟩, -⟩ := rcells14 (HBx.out W hw)
        go_simp
        exact hK.out _ _ rfl (Below.refl _ _)
      case o3 =>
        intro vs W hw hd K hK
        have h2 : vs 2 = .agg #[.int .i64 rid, .int .i64 rver, .int .i64 rkind, .string lg, .slice au nf cu] := hd 2 (by kernel_rfl)
        simp only [Nat.reduceAdd, h2] at hK ⊢
        go_simp
        refine (cRo.out W hw).mono ?_
        rintro e W' ⟨v', rfl, hil, hb'⟩
        exact hK.out _ _ hil hb'
      case o4 =>
        intro vs W hw hd K hK
        have h1 : IL (vs 1) LL W := hd 1 (by kernel_rfl)
        have h3 : IL (vs 3) LL W := hd 3 (by kernel_rfl)
        simp only [Nat.reduceAdd] at hK ⊢
        go_simp
        refine (cSL.out (vs 1) (vs 3) W h1 h3).mono ?_
        rintro e W' ⟨rfl, hb'⟩
        exact hK.out _ _ rfl hb'
      case o5 =>
        intro vs W hw hd K hK
        have h4 : vs 4 = .bool true := hd 4 (by kernel_rfl)
        simp only [Nat.reduceAdd, h4] at hK ⊢
        go_simp
        exact hK.out _ _ rfl (Below.refl _ _)
      case o6 =>
        intro vs W hw hd K hK
        have h5 : vs 5 = .bool true := hd 5 (by kernel_rfl)
        simp only [Nat.reduceAdd, h5] at hK ⊢
        go_simp
        exact hK.out _ _ rfl (Below.refl _ _)
      case o7 =>
        intro vs W hw hd K hK
        have h5 : vs 5 = .bool true := hd 5 (by kernel_rfl)
        simp only [Nat.reduceAdd, h5] at hK ⊢
        go_simp
        exact hK.out _ _ rfl (Below.refl _ _)
      case o8 =>
        intro vs W hw hd K hK
        have h5 : vs 5 = .bool true := hd 5 (by kernel_rfl)
        have h6 : vs 6 = .slice al n cl := hd 6 (by kernel_rfl)
        have h7 : vs 7 = .int .i64 id := hd 7 (by kernel_rfl)
        simp only [Nat.reduceAdd, h5, h6, h7] at hK ⊢
        go_simp
        refine (cUs.out W hw).mono ?_
        rintro e W' ⟨v', rfl, hil, hb'⟩
        exact hK.out _ _ hil hb'
      case o9 =>
        intro vs W hw hd K hK
        have h5 : vs 5 = .bool true := hd 5 (by kernel_rfl)
        simp only [Nat.reduceAdd, h5] at hK ⊢
        go_simp
        exact hK.out _ _ rfl (Below.refl _ _)
      case o10 =>
        intro vs W hw hd K hK
        have h5 : vs 5 = .bool true := hd 5 (by kernel_rfl)
        simp only [Nat.reduceAdd, h5] at hK ⊢
        go_simp
        exact hK.out _ _ rfl (Below.refl _ _)
      case o11 =>
        intro vs W hw hd K hK
        have h5 : vs 5 = .bool true := hd 5 (by kernel_rfl)
        have h9 : vs 9 = .slice al n cl := hd 9 (by kernel_rfl)
        have h10 : vs 10 = .int .i64 id := hd 10 (by kernel_rfl)
        simp only [Nat.reduceAdd, h5, h9, h10] at hK ⊢
        go_simp
        refine (cRu.out W hw).mono ?_
        rintro e W' ⟨v', rfl, hil, hb'⟩
        exact hK.out _ _ hil hb'
      case o12 =>
        intro vs W hw hd K hK
        have h5 : vs 5 = .bool true := hd 5 (by kernel_rfl)
        have h8 : IL (vs 8) UU W := hd 8 (by kernel_rfl)
        have h11 : IL (vs 11) UU W := hd 11 (by kernel_rfl)
        simp only [Nat.reduceAdd, h5] at hK ⊢
        go_simp
        refine (cSU.out (vs 8) (vs 11) W h8 h11).mono ?_
        rintro e W' ⟨rfl, hb'⟩
        exact hK.out _ _ rfl hb'
      case o13 =>
        intro vs W hw hd K hK
        have h5 : vs 5 = .bool true := hd 5 (by kernel_rfl)
        have h12 : vs 12 = .bool true := hd 12 (by kernel_rfl)
        simp only [Nat.reduceAdd, h5, h12] at hK ⊢
        go_simp
        exact hK.out _ _ rfl (Below.refl _ _)
      case o14 =>
        intro vs W hw hd K hK
        have h13 : vs 13 = .bool true := hd 13 (by kernel_rfl)
        simp only [Nat.reduceAdd, h13] at hK ⊢
        go_simp
        exact hK.out _ _ rfl (Below.refl _ _)
      case o15 =>
        intro vs W hw hd K hK
        have h14 : vs 14 = .bool true := hd 14 (by kernel_rfl)
        simp only [Nat.reduceAdd, h14] at hK ⊢
        go_simp
        refine (cAv.out W hw).mono ?_
        rintro e W' ⟨rfl, hb'⟩
        exact hK.out _ _ rfl hb'
      case o16 =>
        intro vs W hw hd K hK
        have h14 : vs 14 = .bool true := hd 14 (by kernel_rfl)
        have h15 : vs 15 = .bool true := hd 15 (by kernel_rfl)
        simp only [Nat.reduceAdd, h14, h15] at hK ⊢
        go_simp
        exact hK.out _ _ rfl (Below.refl _ _)
      case o17 =>
        intro vs W hw hd K hK
        have h16 : vs 16 = .bool true := hd 16 (by kernel_rfl)
        simp only [Nat.reduceAdd, h16] at hK ⊢
        go_simp
        exact hK.out _ _ rfl (Below.refl _ _)
    case hfin =>
      intro vs W hw hd
      have h17 : vs 17 = .bool true := hd 17 (by decide)
      have HG := Lib.hid (HBw2.out W hw)
      simp only [Nat.reduceAdd, h17]
      clear hd h17 hw cLo cRo cUs cRu cAv cSL cSU HBx HBw2 HBw B2
      go_wp2
      first | exact ⟨rfl, HG.out⟩ | (go_ret; exact ⟨rfl, HG.out⟩)
end

section
open Go.RowKit Go.PlainAid
theorem SB.empty (w : World) : SB w.heap.size (.slice (some ⟨w.heap.size, 0, none⟩) 0 0) [] (w.alloc (.cells #[] 48)) :=
  ⟨rfl, .inr ⟨w.heap.size, 0, #[], rfl, Nat.le_refl _, heap_alloc_new w _, Nat.le_refl _, Nat.zero_le _, rfl, rfl⟩⟩

theorem refCodes_any (kd : Int) (w : World) :
    Calls Tryz.prog 37 #[.int .i64 kd] w fun e w' => e = .returned (.string (S (codesU kd))) ∧ w' = w := by
  unfold codesU
  by_cases h1 : kd = 1
  · subst h1
    go_enter Tryz.func37, Tryz.ntmps37
    go_wp2
    go_ret
    exact ⟨rfl, rfl⟩
  · rw [if_neg h1]
    by_cases h3 : kd = 3
    · subst h3
      go_enter Tryz.func37, Tryz.ntmps37
      go_wp2
      go_ret
      exact ⟨rfl, rfl⟩
    · rw [if_neg h3]
      go_enter Tryz.func37, Tryz.ntmps37
      go_wp2
      go_ret
      exact ⟨rfl, rfl⟩

set_option maxHeartbeats 8000000 in
theorem refOccurs_any (c : UInt8) (l : List UInt8) (hl : l.length ≤ 1000000000) (w : World) :
    Calls Tryz.prog 36 #[.int .u8 (c.toNat : Int), .string (S l)] w fun e w' => e = .returned (.bool (decide (c ∈ l))) ∧ w' = w := by
  obtain ⟨n, hn⟩ : ∃ n, l.length = n := ⟨_, rfl⟩
  have hsz : (S l).size = n := by rw [S_size, hn]
  have hbt := get_bt (S l)
  have HBS := Lib.hid (fun i => bt_S l i)
  obtain ⟨b, hb⟩ : ∃ b, decide (c ∈ l) = b := ⟨_, rfl⟩
  rw [hb]
  have HBad := Lib.hid (fun k (hk : k < n) (h : (l.getD k 0).toNat = c.toNat) => show b = true by
    rw [← hb]
    refine decide_eq_true ?_
    rw [← UInt8.toNat_inj.1 h, List.getD_eq_getElem?_getD, List.getElem?_eq_getElem (by rw [hn]; exact hk)]
    exact List.getElem_mem _)
  have HAll := Lib.hid (fun (h : ∀ j, j < n → (l.getD j 0).toNat ≠ c.toNat) => show b = false by
    rw [← hb]
    refine decide_eq_false fun g => ?_
    obtain ⟨j, hj, e⟩ := List.mem_iff_getElem.1 g
    refine h j (by rw [← hn]; exact hj) ?_
    rw [List.getD_eq_getElem?_getD, List.getElem?_eq_getElem hj, ← e]
    rfl)
  obtain ⟨cn, hcn⟩ : ∃ cn, c.toNat = cn := ⟨_, rfl⟩
  have hcb : cn < 256 := by rw [← hcn]; exact c.toNat_lt
  have hln : n ≤ 1000000000 := by rw [← hn]; exact hl
  rw [hcn] at HBad HAll ⊢
  clear hb hn hcn
  generalize S l = s at *
  go_enter Tryz.func36, Tryz.ntmps36
  go_wp2
  go_loopw [5] (fun i wr => ∃ k : Nat, k ≤ n ∧ i = .int .i64 (k : Int) ∧ RowKit.Hid (∀ j, j < k → (l.getD j 0).toNat ≠ cn) ∧ w = wr) (fun i _ => n - (intOf i).toNat)
  case atStart => exact ⟨0, Nat.zero_le _, rfl, (fun j hj => by omega), rfl⟩
  case round =>
    obtain ⟨k, hk, rfl, HJ, rfl⟩ := hrel
    by_cases hkn : k < n
    · have i1 : (0 : Int) ≤ (k : Int) := by omega
      have i2 : (k : Int) < (n : Int) := by omega
      have i2' : k < n := hkn
      have hbk := HBS.out k
      have hm := (l.getD k 0).toNat_lt
      have HBk := Lib.hid (HBad.out k hkn)
      have HJ2 : RowKit.Hid ((l.getD k 0).toNat ≠ cn → ∀ j, j < k + 1 → (l.getD j 0).toNat ≠ cn) := by
        intro h0 j hj
        rcases Nat.lt_or_ge j k with h | h
        · exact HJ.out j h
        · rw [show j = k by omega]; exact h0
      obtain ⟨d, hd⟩ : ∃ d, (l.getD k 0).toNat = d := ⟨_, rfl⟩
      rw [hd] at hbk hm HBk HJ2
      clear hd
      by_cases hdc : d = cn
      · have hf := HBk.out hdc
        subst hf
        have u1 : ((d : Int) == (cn : Int)) = true := by simp; omega
        have u2 : decide (d = cn) = true := decide_eq_true hdc
        have u3 : (d == cn) = true := by simpa using hdc
        clear hdc HBk HJ2
        go_wp2
        first | exact ⟨rfl, rfl⟩ | (go_ret; exact ⟨rfl, rfl⟩)
      · have hj2 := Lib.hid (HJ2.out hdc)
        have u1 : ((d : Int) == (cn : Int)) = false := by simp; omega
        have u2 : decide (d = cn) = false := decide_eq_false hdc
        have u3 : (d == cn) = false := by simpa using hdc
        clear hdc HBk HJ2
        go_wp2
        go_roundw
        case rel => exact ⟨k + 1, by omega, by go_num, hj2.out, by first | rfl | trivial⟩
        case measure => simp [intOf]; omega
    · obtain rfl : k = n := by omega
      have hb2 := HAll.out HJ.out
      subst hb2
      go_wp2
      first | exact ⟨rfl, rfl⟩ | (go_ret; exact ⟨rfl, rfl⟩)

set_option maxHeartbeats 16000000 in
set_option maxRecDepth 100000 in
theorem refSubs1_any (h : List UInt8) (hl : h.length ≤ 10000) (w : World) :
    Calls Tryz.prog 35 #[.int .i64 1, .string (S h)] w fun e w' => ∃ v, e = .returned v ∧ SB w.heap.size v (subsU 1 h) w' ∧ Below w.heap.size w w' := by
  obtain ⟨Q, hQ⟩ : ∃ Q, (fun (e : Ending) (w' : World) => ∃ v, e = .returned v ∧ SB w.heap.size v (subsU 1 h) w' ∧ Below w.heap.size w w') = Q := ⟨_, rfl⟩
  rw [hQ]
  obtain ⟨⟨x, y, z⟩, er, hn⟩ : ∃ nm er, nameX h = (nm, er) := ⟨_, _, rfl⟩
  have cN := Lib.hid (refName_any h (by omega) (x, y, z) er hn w)
  have HOne : RowKit.Hid (er ≠ 0 ∨ z = [] → ∀ W bw, bw = W.heap.size → Below w.heap.size w W → Q (.returned (.slice (some ⟨bw, 0, none⟩) 1 1)) (W.alloc (.cells #[.int .u8 97, .string (S h)] 48))) := by
    rintro hz W bw rfl hW
    rw [← hQ]
    refine ⟨_, rfl, ?_, hW.alloc hW.size _⟩
    have e : subsU 1 h = [(97, h)] := by
      unfold subsU
      rw [hn, if_neg (fun g => hz.elim (fun k => k g.2.1) (fun k => g.2.2 k)), if_neg (by decide)]
    rw [e]
    exact (SB.one W 97 h).base hW.size
  have HTwo : RowKit.Hid (er = 0 → z ≠ [] → ∀ (s : ByteArray) W bw, bw = W.heap.size → s = S (x ++ if y = [] then [] else cb ++ y) → Below w.heap.size w W → Q (.returned (.slice (some ⟨bw, 0, none⟩) 2 2)) (W.alloc (.cells #[.int .u8 97, .string s, .int .u8 100, .string (S z)] 48))) := by
    rintro h0 hz s W bw rfl hs hW
    rw [← hQ]
    refine ⟨_, rfl, ?_, hW.alloc hW.size _⟩
    have e : subsU 1 h = [(97, x ++ if y = [] then [] else cb ++ y), (100, z)] := by
      unfold subsU
      rw [hn, if_pos ⟨rfl, h0, hz⟩]
    rw [e, hs]
    exact (SB.two W 97 100 _ z).base hW.size
  have hl3 := name_len h
  rw [hn] at hl3
  clear hQ hn
  have hs1 := S_size x
  have hs2 := S_size y
  unfold NV at cN
  dsimp only at cN hl3
  go_enter Tryz.func35, Tryz.ntmps35
  go_wp2_with fail
  refine cN.out.mono ?_
  rintro e w1 ⟨rfl, hb1⟩
  have b2 := hb1.alloc hb1.size (.cells #[.string (S x), .string (S y), .string (S z)] 99)
  have HB := Lib.hid b2
  clear hb1 b2 cN
  by_cases h0 : er = 0
  · subst h0
    by_cases hz : z = []
    · have ho := Lib.hid (HOne.out (.inr hz) _ (w1.heap.size + 1) (by simp) HB.out)
      subst hz
      have ee : (S []).toList.isEmpty = true ∧ (S []).toList = [] := by rw [ByteArray.toList_eq]; exact ⟨rfl, rfl⟩
      obtain ⟨e1, e2⟩ := ee
      clear HOne HTwo
      generalize S [] = sz at *
      go_wp2
      exact ho.out
    · obtain ⟨z1, z2⟩ := S_facts z hz
      have HT := Lib.hid (HTwo.out rfl hz)
      clear HOne HTwo hz
      by_cases hy : y = []
      · subst hy
        have ho := Lib.hid (HT.out (S x) _ (w1.heap.size + 1) (by simp) (by rw [if_pos rfl, List.append_nil]) HB.out)
        have ee : (S []).toList.isEmpty = true ∧ (S []).toList = [] := by rw [ByteArray.toList_eq]; exact ⟨rfl, rfl⟩
        obtain ⟨e1, e2⟩ := ee
        clear HT
        generalize S [] = sy at *
        generalize S x = sx at *
        generalize S z = sz at *
        go_wp2
        exact ho.out
      · obtain ⟨y1, y2⟩ := S_facts y hy
        have ho := Lib.hid (HT.out (S x ++ ⟨#[44, 32]⟩ ++ S y) _ (w1.heap.size + 1) (by simp) (by rw [if_neg hy, ← List.append_assoc, ← S_append, ← S_append]; rfl) HB.out)
        have hsz : (S x ++ ⟨#[44, 32]⟩).size = (S x).size + 2 := by rw [ByteArray.size_append]; rfl
        clear HT hy
        generalize S y = sy at *
        generalize S x = sx at *
        generalize S z = sz at *
        go_wp2
        exact ho.out
  · have ho := Lib.hid (HOne.out (.inl h0) _ (w1.heap.size + 1) (by simp) HB.out)
    have t0 : (er == 0) = false := by simpa using h0
    clear HOne HTwo h0
    generalize S y = sy at *
    generalize S x = sx at *
    generalize S z = sz at *
    go_wp2
    exact ho.out
end

end Go.Proofs.YthjdopnoophigaaGreatDoor

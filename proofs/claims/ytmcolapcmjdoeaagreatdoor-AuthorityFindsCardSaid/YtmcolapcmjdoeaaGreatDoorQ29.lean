/- Merged: QH13, R13J, R13K. -/
import Derived.Test.YtmcolapcmjdoeaaGreatDoorQ28
import Derived.Test.YtmcolapcmjdoeaaGreatDoorQ26
import Derived.Test.YtmcolapcmjdoeaaGreatDoorQ25
import Derived.Test.YtmcolapcmjdoeaaGreatDoorQ01
namespace Go.Proofs.YtmcolapcmjdoeaaGreatDoor

section
open Go.RowKit Go.PlainAid Go.Maps
theorem wpList_len_vm {α : Type} {kT : TypeId} {mk : α → Lit} {b m : Nat} {f : α → Option Value} (w : World) {ops : Array Oper} {rest : List Oper} {o : Oper} {a : Act} {Q : Exit → Act → World → Prop}
    (hg : o.guard = none) (x : Operand) (t e : TypeId) (hop : o.op = Op.call { callee := Callee.builtin Builtin.len, args := #[x], argTypes := #[t] }) (ht : Tryz.prog.underlying t = some (.map kT e))
    (h : VM kT mk b f m w) (hm : a.eval x = .map (some b)) (hK : wpList Tryz.prog ops Q rest (a.put o.dst (.int .i64 (m : Int))) w) : wpList Tryz.prog ops Q (o :: rest) a w := by
  refine wpList_plain hg fun K' hK' => ?_
  unfold Oper.wp
  simp [execOp, hop, resolve, invoke, builtin, hm, h.len ht o.type, Result.andThen]
  exact hK' _ _ hK
theorem wpList_lookOk_vm {α : Type} {kT : TypeId} {mk : α → Lit} {b m : Nat} {f : α → Option Value} (w : World) {ops : Array Oper} {rest : List Oper} {o : Oper} {a : Act} {Q : Exit → Act → World → Prop}
    (hg : o.guard = none) (ma xa : Operand) (t e : TypeId) (hop : o.op = Op.lookup t ma xa true) (h : VM kT mk b f m w) (K : Keyed Tryz.prog kT) (ht : Tryz.prog.underlying t = some (.map kT e)) (z : Value) (hz : (zeroValue e).run Tryz.prog w = .ok z w)
    (hm : a.eval ma = .map (some b)) (key : Value) (y : α) (hx : a.eval xa = key) (hkey : keyOf Tryz.prog kT key = some (mk y)) (v : Value) (c : Bool) (hv : (f y).getD z = v) (hc : (f y).isSome = c)
    (hK : wpList Tryz.prog ops Q rest (a.put o.dst (.tuple #[v, .bool c])) w) :
    wpList Tryz.prog ops Q (o :: rest) a w := by
  refine wpList_plain hg fun K' hK' => ?_
  unfold Oper.wp
  simp [execOp, hop, hm, hx, h.lookOk K ht hz hkey, hv, hc, Result.andThen]
  exact hK' _ _ hK
theorem ok_of (L : List Au) (hb : bnd L) (h : onesI none L = 0) : okL L := by
  obtain ⟨_, h2, _⟩ := ones_out L none h
  intro a ha
  obtain ⟨h3, h4⟩ := h2 a ha
  have hk : ¬ (a.kind < 1 ∨ 4 < a.kind) := by
    intro g
    rw [shapeI_kind a g] at h3
    cases h3
  refine ⟨by omega, h4, Nat.le_trans (hb.2 a ha).1 (by decide), fun x hx => ⟨?_, Nat.le_trans ((hb.2 a ha).2.2 x hx) (by decide)⟩⟩
  unfold shapeI at h3
  rw [if_neg hk] at h3
  split at h3
  · rename_i h5
    exact absurd h3 h5
  · rename_i h5
    have := firstI_all _ (Decidable.of_not_not h5) _ (List.mem_map.2 ⟨x, hx, rfl⟩)
    unfold hdE at this
    split at this
    · cases this
    · rename_i h6
      cases hv : validT x with
      | true => rfl
      | false => exact absurd (.inl hv) h6

set_option maxHeartbeats 16000000 in
set_option maxRecDepth 100000 in
theorem distinct_any (v : Value) (L : List Au) (w : World) (hE : Env w) (hv : AL v L w) (hz : L.length ≤ 900) (hok : okL L) :
    Calls Tryz.prog 40 #[v] w fun e w' => e = .returned (.bool (decide (keysX L).Nodup)) ∧ Below w.heap.size w w' := by
  obtain ⟨q, hq⟩ : ∃ q, decide (keysX L).Nodup = q := ⟨_, rfl⟩
  have HQv : RowKit.Hid (((mapR (entX L).reverse).2 == (entX L).length) = q) := by
    unfold RowKit.Hid
    rw [← hq, Bool.eq_iff_iff, beq_iff_eq, decide_eq_true_iff]
    exact entX_nodup L
  rw [hq]
  have HV := Lib.hid hv
  have HOk := Lib.hid hok
  have HLen : RowKit.Hid (∀ k, (entX (L.take k)).length ≤ 901000) := by
    intro k
    have h1 := entX_le (L.take k) 1000 (fun a ha => (hok a (List.mem_of_mem_take ha)).2.2.1)
    have h2 : (L.take k).length ≤ 900 := by rw [List.length_take]; omega
    have h3 : (L.take k).length * (1000 + 1) ≤ 900 * (1000 + 1) := Nat.mul_le_mul_right _ h2
    omega
  have cO := Lib.hid (fun (W : World) (hb : Below w.heap.size w W) => owners_any v L W (hE.after hb) (hv.after hb) hz hok)
  obtain ⟨va, vc, rfl, hc1, hc2⟩ := hv.length
  obtain ⟨n, hn⟩ : ∃ n, L.length = n := ⟨_, rfl⟩
  have HN := Lib.hid hn
  rw [hn] at HV hc1 hz cO ⊢
  have HB0 := Lib.hid (Below.refl w.heap.size w)
  clear hq hv hn hok hE
  go_enter Tryz.func40, Tryz.ntmps40
  go_wp2
  go_loopw [3, 8] (fun s3 s8 wr => ∃ k c : Nat, s8 = .int .i64 (k : Int) ∧ s3 = .int .i64 (c : Int) ∧ k ≤ n ∧ c ≤ 901000 ∧ RowKit.Hid (c = (entX (L.take k)).length) ∧ RowKit.Hid (Below w.heap.size w wr)) (fun _ s8 _ => n - (intOf s8).toNat)
  case atStart => exact ⟨0, 0, rfl, rfl, Nat.zero_le _, by omega, rfl, HB0.out⟩
  case round =>
    obtain ⟨k, c, rfl, rfl, hk, hc, HC, HB⟩ := hrel
    clear HB0
    by_cases hkn : k < n
    · have i1 : (0 : Int) ≤ (k : Int) := by omega
      have i2 : (k : Int) < (n : Int) := by omega
      obtain ⟨g, o, cap', s, t, he, hg, c0, c1, c2, c3, c4, hq⟩ := (HV.out.after HB.out).at k (by rw [HN.out]; exact hkn)
      obtain ⟨rfl, -, hcp⟩ := Value.slice.inj he
      obtain ⟨a, ha⟩ : ∃ a, L.getD k au0 = a := ⟨_, rfl⟩
      have hmem : a ∈ L := by
        rw [← ha, getD_at13 L k (by rw [HN.out]; exact hkn)]
        exact List.getElem_mem _
      have hst : L.take (k + 1) = L.take k ++ [a] := by
        rw [List.take_succ_eq_append_getElem (by rw [HN.out]; exact hkn), ← getD_at13 L k (by rw [HN.out]; exact hkn), ha]
      rw [ha] at c0 c1 c2 hq
      obtain ⟨as2, cs2, hs2, -, -⟩ := hq.1.length
      obtain ⟨at2, ct2, ht2, -⟩ := hq.2
      obtain ⟨Wb, hWb⟩ : ∃ W, wr.alloc (.cells #[.int .i64 a.id, .int .i64 a.kind, .string (S a.heading), s, t] 31) = W := ⟨_, rfl⟩
      have bb : Below wr.heap.size wr Wb := by rw [← hWb]; exact (Below.refl _ _).alloc (Nat.le_refl _) _
      have hRb : Wb.heap[wr.heap.size]? = some (.cells #[.int .i64 a.id, .int .i64 a.kind, .string (S a.heading), s, t] 31 (0, 0)) := by rw [← hWb]; exact heap_alloc_new wr _
      obtain ⟨⟨y0, y1, y2, y3, y4⟩, -⟩ := acells hRb
      have hoka := HOk.out a hmem
      have cH := Lib.hid (headings_any a s t Wb (hq.1.after bb) (by omega))
      have HBb := Lib.hid (HB.out.trans (bb.mono HB.out.size))
      have HWb := Lib.hid hWb
      have hhl : (hdsX a).length ≤ 1001 := by
        unfold hdsX
        rw [List.length_cons]
        omega
      have HC2 : RowKit.Hid (c + (hdsX a).length = (entX (L.take (k + 1))).length) := by
        unfold RowKit.Hid
        have e : entX (L.take (k + 1)) = entX (L.take k) ++ entA a := by
          rw [hst]
          unfold entX
          rw [List.flatMap_append, List.flatMap_cons, List.flatMap_nil, List.append_nil]
        rw [e, List.length_append, entA_len, HC.out]
      obtain ⟨m, hm⟩ : ∃ m, (hdsX a).length = m := ⟨_, rfl⟩
      rw [hm] at HC2 hhl
      have hcm : c + m ≤ 901000 := by have := HLen.out (k + 1); have := HC2.out; omega
      have HMm := Lib.hid hm
      clear he hcp ha hq hWb bb hRb hst hoka hm
      unfold AV at cH
      subst hs2 ht2
      go_upto_region 5 with fail
      rw [HWb.out]
      clear c0 c1 c2 c3 c4
      go_wp2_with fail
      refine cH.out.mono ?_
      rintro e w6 ⟨v6, rfl, hr6, hn6, hb6⟩
      obtain ⟨a6, c6, hv6, -, -⟩ := own_form13 hr6
      have HW6 := Lib.hid (HBb.out.trans (hb6.mono HBb.out.size))
      rw [HMm.out] at hv6
      subst hv6
      clear hr6 hn6 hb6 cH y0 y1 y2 y3 y4
      go_wp2
      go_roundw
      case rel => exact ⟨k + 1, c + m, by go_num, by go_num, by omega, hcm, HC2.out, HW6.out⟩
      case measure => simp [intOf]; omega
    · obtain rfl : k = n := by omega
      have hT : L.take k = L := by rw [← HN.out, List.take_length]
      have hC := HC.out
      rw [hT] at hC
      have hQv := HQv.out
      rw [← hC] at hQv
      have HQ2 := Lib.hid hQv
      have cO2 := Lib.hid (cO.out wr HB.out)
      clear hC hT hQv cO
      go_wp2_with fail
      refine cO2.out.mono ?_
      rintro e w6 ⟨b, rfl, hm6, hb6⟩
      have HM6 := Lib.hid hm6
      have HW6 := Lib.hid (HB.out.trans (hb6.mono HB.out.size))
      obtain ⟨d, hd⟩ : ∃ d, (mapR (entX L).reverse).2 = d := ⟨_, rfl⟩
      have HVm : RowKit.Hid (VM 65 mkNK b (fNK (mapR (entX L).reverse).1) d w6) := by rw [← hd]; exact HM6.out
      have hQ2 := HQ2.out
      rw [hd] at hQ2
      have q1 : ((d : Int) == (c : Int)) = q := by rw [← hQ2, Bool.eq_iff_iff, beq_iff_eq, beq_iff_eq]; omega
      clear hm6 hb6 hd HQ2 HQv HM6
      go_wp2_with (at_len; refine wpList_len_vm _ rfl _ 62 60 rfl Tryz.underlying62 HVm.out rfl ?_)
      go_ret
      exact ⟨by first | rfl | (rw [← q1]; rfl) | simp [*], HW6.out⟩

set_option maxHeartbeats 16000000 in
set_option maxRecDepth 100000 in
theorem find_any (v : Value) (L : List Au) (kd : Int) (h : List UInt8) (w : World) (hE : Env w) (hv : AL v L w) (hz : L.length ≤ 900) (hok : okL L) (hnd : (keysX L).Nodup) (hw : wfI kd) (hvt : validT h = true) (hl : h.length ≤ 9000) :
    Calls Tryz.prog 12 #[v, .int .i64 kd, .string (S h)] w fun e w' => e = .returned (.tuple #[.int .i64 (findA L kd h).1, .bool (findA L kd h).2.1, .bool (findA L kd h).2.2]) ∧ Below w.heap.size w w' := by
  have cN := Lib.hid (pNorm12_any h hvt hl w hE)
  have cO := Lib.hid (fun (W : World) (hb : Below w.heap.size w W) => owners_any v L W (hE.after hb) (hv.after hb) hz hok)
  obtain ⟨va, vc, rfl, hc1, hc2⟩ := hv.length
  have hnl := norm_len h hvt
  have htab := find_tab kd (normX h) L hnd
  obtain ⟨z, hz0⟩ : ∃ z, normX h = z := ⟨_, rfl⟩
  obtain ⟨r1, r2, r3, hr⟩ : ∃ r1 r2 r3, findA L kd h = (r1, r2, r3) := ⟨_, _, _, rfl⟩
  rw [hr]
  unfold findA at hr
  rw [hz0] at cN hr hnl htab
  generalize L.length = n at *
  by_cases he : z = []
  · subst he
    rw [if_pos rfl] at hr
    obtain ⟨rfl, h2⟩ := Prod.mk.inj hr
    obtain ⟨rfl, rfl⟩ := Prod.mk.inj h2
    have e0 : S [] = (⟨#[]⟩ : ByteArray) := rfl
    rw [e0] at cN
    obtain ⟨sn, hsn2⟩ : ∃ s, (⟨#[]⟩ : ByteArray) = s := ⟨_, rfl⟩
    have hn1 : sn.toList.isEmpty = true := by rw [← hsn2, ByteArray.toList_eq]; rfl
    have hn2 : sn.toList = [] := by rw [← hsn2, ByteArray.toList_eq]
    rw [hsn2] at cN
    clear hr h2 e0 hsn2 htab hz0 hnl cO hv hE
    generalize S h = sh at *
    go_enter Tryz.func12, Tryz.ntmps12
    go_wp2_with fail
    refine cN.out.mono ?_
    rintro e w1 ⟨rfl, hb1⟩
    go_wp2
    (try simp only [Exit.inBlock, Exit.then])
    refine bodyPost_ret (results_tmp3 rfl _ _ _) rfl ?_
    exact ⟨rfl, hb1⟩
  · rw [if_neg he] at hr
    rw [hr] at htab
    obtain ⟨zn1, zn2⟩ := S_facts z he
    let y : NK := ⟨(kd, z), hw, by show z.length ≤ maxLen; unfold maxLen; omega⟩
    have HY : RowKit.Hid (∃ y : NK, y.1 = (kd, z)) := ⟨y, rfl⟩
    clear_value y
    obtain ⟨y, hy⟩ := HY.out
    have HKy : RowKit.Hid (keyOf Tryz.prog 65 (.agg #[.int .i64 kd, .string (S z)]) = some (mkNK y)) := by
      have := key_nk y
      rw [hy] at this
      exact this
    have HF : RowKit.Hid ((fNK (mapR (entX L).reverse).1 y).getD ownZ = .agg #[.int .i64 r1, .bool r2] ∧ (fNK (mapR (entX L).reverse).1 y).isSome = r3) := by
      unfold RowKit.Hid fNK
      rw [hy]
      cases e : (mapR (entX L).reverse).1 (kd, z) with
      | none =>
        rw [e] at htab
        obtain ⟨rfl, h2⟩ := Prod.mk.inj htab
        obtain ⟨rfl, rfl⟩ := Prod.mk.inj h2
        exact ⟨rfl, rfl⟩
      | some x =>
        rw [e] at htab
        obtain ⟨rfl, h2⟩ := Prod.mk.inj htab
        obtain ⟨rfl, rfl⟩ := Prod.mk.inj h2
        exact ⟨rfl, rfl⟩
    clear hr htab hz0 hnl hv hE he hy HY
    generalize S h = sh at *
    generalize S z = sz at *
    go_enter Tryz.func12, Tryz.ntmps12
    go_wp2_with fail
    refine cN.out.mono ?_
    rintro e w1 ⟨rfl, hb1⟩
    have HB1 := Lib.hid hb1
    have cO1 := Lib.hid (cO.out w1 hb1)
    clear hb1
    go_wp2_with fail
    refine cO1.out.mono ?_
    rintro e w2 ⟨b, rfl, hm2, hb2⟩
    have HB2 := Lib.hid (HB1.out.trans (hb2.mono HB1.out.size))
    have HM2 : RowKit.Hid (VM 65 mkNK b (fNK (mapR (entX L).reverse).1) (mapR (entX L).reverse).2 w2) := hm2
    clear hm2 hb2
    go_upto_region 5 with (at_lookup; refine wpList_lookOk_vm _ rfl _ _ 62 60 rfl HM2.out keyed_name Tryz.underlying62 ownZ (zero_owner _) rfl _ y rfl HKy.out _ _ HF.out.1 HF.out.2 ?_)
    obtain ⟨W3, hW3⟩ : ∃ W, w2.alloc (.cells #[.int .i64 r1, .bool r2] 60) = W := ⟨_, rfl⟩
    have k0 : W3.cell? ⟨w2.heap.size, 0, none⟩ = some (.int .i64 r1) := by rw [← hW3]; simp
    have k1 : W3.cell? ⟨w2.heap.size, 1, none⟩ = some (.bool r2) := by rw [← hW3]; simp
    have b3 : Below w.heap.size w W3 := by rw [← hW3]; exact HB2.out.alloc HB2.out.size _
    rw [hW3]
    clear hW3 HM2
    go_region
    go_wp2
    (try simp only [Exit.inBlock, Exit.then])
    refine bodyPost_ret (results_tmp3 rfl _ _ _) rfl ?_
    exact ⟨rfl, b3.drew⟩
end

section
open Go.RowKit Go.PlainAid
/-- A slice of texts of the call's own, nil at first. -/
def SN (B : Nat) (v : Value) (L : List (List UInt8)) (w : World) : Prop := w.ownsRow B 9 1 v L.length (L.map strB)
theorem SN.after {B : Nat} {v : Value} {L : List (List UInt8)} {w w' : World} (h : SN B v L w) (hb : Below w.heap.size w w') : SN B v L w' := own_after h hb
theorem SN.zero (B : Nat) (w : World) : SN B (.slice none 0 0) [] w := ⟨rfl, .inl ⟨rfl, rfl⟩⟩
/-- Two slices of one's own that lie in two blocks. -/
def apart (u v : Value) : Prop := u.ownBlock = none ∨ u.ownBlock ≠ v.ownBlock
theorem apart_new {w : World} {B e size n : Nat} {u v v' : Value} {xs : List Value} (hu : w.ownsRow B e size u n xs) (h : apart v u) (hb : v'.ownBlock = v.ownBlock ∨ v'.ownBlock = some w.heap.size) : apart v' u := by
  unfold apart at *
  rcases hb with hb | hb
  · rw [hb]; exact h
  · refine .inr fun h2 => ?_
    rw [hb] at h2
    have := (hu.lt _ h2.symm).2
    omega
theorem append_sn2 {ops : Array Oper} {rest : List Oper} {o : Oper} {a : Act} {Q : Exit → Act → World → Prop} (w : World) (hgd : o.guard = none) (s x : Operand)
    (ho : o.op = .call { callee := .builtin .append, args := #[s, x], argTypes := #[28, 28] })
    (B : Nat) (v : Value) (L : List (List UInt8)) (y : List UInt8) (hs : a.eval s = v) (h : SN B v L w) (hx : a.eval x = .slice (some ⟨w.heap.size, 0, none⟩) 1 1) (hz : L.length ≤ 10000000) (hB : B ≤ w.heap.size)
    (N : Nat) (W1 : World) (hNB : N ≤ B) (hb : Below N W1 w)
    (hk : ∀ v' w', SN B v' (L ++ [y]) w' → (w.alloc (.cells #[strB y] 9)).grownBy w' v.ownBlock → (v'.ownBlock = v.ownBlock ∨ v'.ownBlock = some (w.alloc (.cells #[strB y] 9)).heap.size) → Below N W1 w' → B ≤ w'.heap.size → wpList Tryz.prog ops Q rest (a.put o.dst v') w') : wpList Tryz.prog ops Q (o :: rest) a (w.alloc (.cells #[strB y] 9)) := by
  obtain ⟨i0, hi, hz0, hz1, hz2⟩ := info_string
  have hrow := World.ownsRow.alloc h (.cells #[strB y] 9)
  refine wpList_append_two _ hgd s x 28 ho B 9 i0 (.string ⟨#[]⟩) 1 16 Tryz.underlying28 hi hz0 hz1 hz2 rfl (by decide) v L.length _ hs hrow ⟨w.heap.size, 0, none⟩ 1 1 [strB y] hx rfl (cells_one12 _ _ _) (by intro u hu; simp at hu; subst hu; rfl) (by decide) (by unfold maxLen; omega) (by omega) (by simp; omega) ?_
  intro v2 w2 hown2 hg2 _ hb2
  refine hk v2 w2 (by unfold SN; rw [List.length_append, List.map_append]; exact hown2) hg2 hb2 ?_ (Nat.le_trans (by simp; omega) hg2.size)
  exact (hb.alloc (by omega) _).grown hg2 (by simp; omega) (fun j hj => Nat.le_trans hNB (hrow.lt j hj).1)
theorem append_ir2 {ops : Array Oper} {rest : List Oper} {o : Oper} {a : Act} {Q : Exit → Act → World → Prop} (w : World) (hgd : o.guard = none) (s x : Operand)
    (ho : o.op = .call { callee := .builtin .append, args := #[s, x], argTypes := #[29, 29] })
    (B : Nat) (v : Value) (L : List Int) (y : Int) (hs : a.eval s = v) (h : IR B v L w) (hx : a.eval x = .slice (some ⟨w.heap.size, 0, none⟩) 1 1) (hz : L.length ≤ 10000000) (hB : B ≤ w.heap.size)
    (N : Nat) (W1 : World) (hNB : N ≤ B) (hb : Below N W1 w)
    (hk : ∀ v' w', IR B v' (L ++ [y]) w' → (w.alloc (.cells #[intV y] 3)).grownBy w' v.ownBlock → (v'.ownBlock = v.ownBlock ∨ v'.ownBlock = some (w.alloc (.cells #[intV y] 3)).heap.size) → Below N W1 w' → B ≤ w'.heap.size → wpList Tryz.prog ops Q rest (a.put o.dst v') w') : wpList Tryz.prog ops Q (o :: rest) a (w.alloc (.cells #[intV y] 3)) := by
  obtain ⟨i0, hi, hz0, hz1, hz2⟩ := info_int13
  have hrow := World.ownsRow.alloc h (.cells #[intV y] 3)
  refine wpList_append_two _ hgd s x 29 ho B 3 i0 (.int .i64 0) 1 8 Tryz.underlying29 hi hz0 hz1 hz2 rfl (by decide) v L.length _ hs hrow ⟨w.heap.size, 0, none⟩ 1 1 [intV y] hx rfl (cells_one12 _ _ _) (by intro u hu; simp at hu; subst hu; rfl) (by decide) (by unfold maxLen; omega) (by omega) (by simp; omega) ?_
  intro v2 w2 hown2 hg2 _ hb2
  refine hk v2 w2 (by unfold IR; rw [List.length_append, List.map_append]; exact hown2) hg2 hb2 ?_ (Nat.le_trans (by simp; omega) hg2.size)
  exact (hb.alloc (by omega) _).grown hg2 (by simp; omega) (fun j hj => Nat.le_trans hNB (hrow.lt j hj).1)

/-! The keys in their order. -/
def keyO (a : Au) (h : List UInt8) : Int × List UInt8 := (a.kind, normX h)
def keyK (L : List Au) (i k : Nat) : List (Int × List UInt8) := keysX (L.take i) ++ ((hdsX (L.getD i au0)).take k).map (keyO (L.getD i au0))
theorem keyK_zero (L : List Au) (i : Nat) : keyK L i 0 = keysX (L.take i) := by simp [keyK]
theorem keyK_step (L : List Au) (i k : Nat) (h : k < (hdsX (L.getD i au0)).length) : keyK L i (k + 1) = keyK L i k ++ [keyO (L.getD i au0) ((hdsX (L.getD i au0)).getD k [])] := by
  unfold keyK
  rw [take_snoc13 _ k h, List.map_append, ← List.append_assoc]
  rfl
theorem keyK_all (L : List Au) (i : Nat) (h : i < L.length) : keyK L i (hdsX (L.getD i au0)).length = keysX (L.take (i + 1)) := by
  unfold keyK keysX
  rw [List.take_length, take_snocA L i h, List.flatMap_append]
  simp [keysA, keyO]
theorem list_split13 (H : List (List UInt8)) (k : Nat) (hk : k < H.length) : H = H.take k ++ H.getD k [] :: H.drop (k + 1) := by
  conv => lhs; rw [← List.take_append_drop k H, List.drop_eq_getElem_cons hk]
  rw [List.getD_eq_getElem?_getD, List.getElem?_eq_getElem hk]
  rfl
theorem keyK_split (L : List Au) (i k : Nat) (hi : i < L.length) (hk : k < (hdsX (L.getD i au0)).length) : ∃ r, keysX L = keyK L i k ++ keyO (L.getD i au0) ((hdsX (L.getD i au0)).getD k []) :: r := by
  have h1 : keysX L = keysX (L.take i) ++ (keysA (L.getD i au0) ++ keysX (L.drop (i + 1))) := by
    conv => lhs; rw [← List.take_append_drop i L, List.drop_eq_getElem_cons hi]
    unfold keysX
    rw [List.flatMap_append, List.flatMap_cons, getD_at13 L i hi]
  have h2 : keysA (L.getD i au0) = ((hdsX (L.getD i au0)).take k).map (keyO (L.getD i au0)) ++ keyO (L.getD i au0) ((hdsX (L.getD i au0)).getD k []) :: ((hdsX (L.getD i au0)).drop (k + 1)).map (keyO (L.getD i au0)) := by
    have e := list_split13 (hdsX (L.getD i au0)) k hk
    have e2 : keysA (L.getD i au0) = (hdsX (L.getD i au0)).map (keyO (L.getD i au0)) := rfl
    rw [e2]
    generalize hdsX (L.getD i au0) = H at *
    conv => lhs; rw [e, List.map_append, List.map_cons]
  refine ⟨((hdsX (L.getD i au0)).drop (k + 1)).map (keyO (L.getD i au0)) ++ keysX (L.drop (i + 1)), ?_⟩
  rw [h1, h2]
  unfold keyK
  simp only [List.append_assoc, List.cons_append]
theorem keys_len (m : Nat) : ∀ l : List Au, (∀ a ∈ l, a.see.length ≤ m) → (keysX l).length ≤ (m + 1) * l.length
  | [], _ => by simp [keysX]
  | a :: r, h => by
    have h1 := keys_len m r (fun b hb => h b (by simp [hb]))
    have h2 := h a (by simp)
    have e : (keysX (a :: r)).length = (a.see.length + 1) + (keysX r).length := by
      simp [keysX, keysA, hdsX]
      omega
    rw [e, List.length_cons, Nat.mul_add]
    omega
theorem keyK_len (L : List Au) (hb : bnd L) (i k : Nat) (hi : i < L.length) : (keyK L i k).length ≤ 100000 := by
  have h1 := keys_len 100 (L.take i) (fun a ha => (hb.2 a (List.mem_of_mem_take ha)).1)
  have h2 : (L.take i).length ≤ 64 := by rw [List.length_take]; have := hb.1; omega
  have h3 : (100 + 1) * (L.take i).length ≤ 101 * 64 := Nat.mul_le_mul_left _ h2
  have h4 := (hb.2 _ (mem_getDA L i hi)).1
  have h5 : ((hdsX (L.getD i au0)).take k).length ≤ 101 := by
    rw [List.length_take]
    unfold hdsX
    rw [List.length_cons]
    omega
  unfold keyK
  rw [List.length_append, List.length_map]
  omega
theorem SN.at13 {B : Nat} {v : Value} {L : List (List UInt8)} {w : World} (h : SN B v L w) (k : Nat) (hk : k < L.length) : ∃ g o cap, v = .slice (some ⟨g, o, none⟩) L.length cap ∧ g < w.heap.size ∧ w.cell? ⟨g, o + k, none⟩ = some (.string (S (L.getD k []))) := (row_bl h).at13 k hk
set_option maxHeartbeats 32000000 in
set_option maxRecDepth 100000 in
theorem refTwice_any (v : Value) (L : List Au) (w : World) (hv : AL v L w) (hb : bnd L) (hx : ∀ a ∈ L, ∀ x ∈ hdsX a, validT x = true) :
    Calls Tryz.prog 31 #[v] w fun e w' => e = .returned (.bool (!decide (keysX L).Nodup)) ∧ Below w.heap.size w w' := by
  obtain ⟨res, hres⟩ : ∃ b, (!decide (keysX L).Nodup) = b := ⟨_, rfl⟩
  have HYes : RowKit.Hid (¬ (keysX L).Nodup → res = true) := fun h => by rw [← hres, decide_eq_false h]; rfl
  have HNo : RowKit.Hid ((keysX L).Nodup → res = false) := fun h => by rw [← hres, decide_eq_true h]; rfl
  rw [hres]
  have HV := Lib.hid hv
  have HBn := Lib.hid hb
  have HX := Lib.hid hx
  obtain ⟨va, vc, rfl, hc1, hc2⟩ := hv.length
  obtain ⟨n, hn⟩ : ∃ n, L.length = n := ⟨_, rfl⟩
  have HN := Lib.hid hn
  have hn64 : n ≤ 64 := by rw [← hn]; exact hb.1
  rw [hn] at HV hc1 ⊢
  have HI0 := Lib.hid (IR.zero w.heap.size w)
  have HS0 := Lib.hid (SN.zero w.heap.size w)
  clear hres hv hb hx hn
  go_enter Tryz.func31, Tryz.ntmps31
  go_wp2
  go_loopw [3, 4, 5] (fun v3 v4 v5 wr => ∃ i : Nat, v5 = .int .i64 (i : Int) ∧ i ≤ n ∧ RowKit.Hid ((keysX (L.take i)).Nodup) ∧ RowKit.Hid (IR w.heap.size v3 ((keysX (L.take i)).map (·.1)) wr) ∧ RowKit.Hid (SN w.heap.size v4 ((keysX (L.take i)).map (·.2)) wr) ∧ RowKit.Hid (apart v3 v4 ∧ apart v4 v3) ∧ RowKit.Hid (Below w.heap.size w wr)) (fun _ _ v5 _ => n - (intOf v5).toNat)
  case atStart => exact ⟨0, rfl, Nat.zero_le _, List.nodup_nil, HI0, HS0, ⟨.inl rfl, .inl rfl⟩, Below.refl _ _⟩
  case round =>
    obtain ⟨i, rfl, hi, HD, HI, HS, HAp, HB⟩ := hrel
    clear HI0 HS0
    by_cases hin : i < n
    · have i1 : (0 : Int) ≤ (i : Int) := by omega
      have i2 : (i : Int) < (n : Int) := by omega
      have hil : i < L.length := by rw [HN.out]; exact hin
      have hmem := mem_getDA L i hil
      obtain ⟨g, o, cap, s, t, he, hg, hrd⟩ := HV.out.read i hil
      obtain ⟨rfl, -, hcp⟩ := Value.slice.inj he
      subst hcp
      have HRd := Lib.hid hrd
      have HVx := Lib.hid (HX.out _ hmem)
      have hba := HBn.out.2 _ hmem
      have HKz := Lib.hid (keyK_zero L i)
      have HKs := Lib.hid (fun k => keyK_step L i k)
      have HKa := Lib.hid (keyK_all L i hil)
      have HKp := Lib.hid (fun k => keyK_split L i k hil)
      have HKl := Lib.hid (fun k => keyK_len L HBn.out i k hil)
      obtain ⟨a, ha⟩ : ∃ a, L.getD i au0 = a := ⟨_, rfl⟩
      rw [ha] at HRd hba HVx HKs HKa HKp
      have hba1 := hba.1
      have HBx := Lib.hid hba.2.2
      obtain ⟨c0, c1, c2, c3, c4, hAN⟩ := HRd.out wr HB.out
      obtain ⟨sa, sc, hs1, -, -⟩ := hAN.1.length
      obtain ⟨ta, tc, ht1, -⟩ := hAN.2.length
      have cH := refHeadings_any a s t wr hAN (by omega)
      subst hs1 ht1
      unfold AV at cH
      have CH := Lib.hid cH
      clear he hrd hmem ha hba hAN cH hil
      go_wp2_with fail
      refine CH.out.mono ?_
      rintro e w1 ⟨vh, rfl, hr1, hb1⟩
      obtain ⟨gh, ch, rfl⟩ := sr_form hr1
      have HRw := Lib.hid (show w1.ownsRow w.heap.size 9 1 (.slice (some ⟨gh, 0, none⟩) (hdsX a).length ch) (hdsX a).length ((hdsX a).map strB) from (hr1.mono13 HB.out.size).row)
      have hghl : wr.heap.size ≤ gh := (hr1.row.lt gh rfl).1
      have hap3 : apart (.slice (some ⟨gh, 0, none⟩) (hdsX a).length ch) u3 := .inr fun h => by
        have := (World.ownsRow.lt HI.out gh h.symm).2
        omega
      have hap4 : apart (.slice (some ⟨gh, 0, none⟩) (hdsX a).length ch) u4 := .inr fun h => by
        have := (World.ownsRow.lt HS.out gh h.symm).2
        omega
      have HA3 := Lib.hid hap3
      have HA4 := Lib.hid hap4
      have B1 := Lib.hid (HB.out.trans (hb1.mono HB.out.size))
      obtain ⟨q, hq⟩ : ∃ q, (hdsX a).length = q := ⟨_, rfl⟩
      have HQ := Lib.hid hq
      have hq9 : q ≤ 101 := by rw [← hq]; unfold hdsX; rw [List.length_cons]; omega
      have HI1 : RowKit.Hid (IR w.heap.size u3 ((keyK L i 0).map (·.1)) w1) := by
        unfold RowKit.Hid
        rw [HKz.out]
        exact HI.out.after hb1
      have HS1 : RowKit.Hid (SN w.heap.size u4 ((keyK L i 0).map (·.2)) w1) := by
        unfold RowKit.Hid
        rw [HKz.out]
        exact HS.out.after hb1
      have HD1 : RowKit.Hid ((keyK L i 0).Nodup) := by
        unfold RowKit.Hid
        rw [HKz.out]
        exact HD.out
      rw [hq] at HRw HA3 HA4 HKa HKs HKp ⊢
      clear hr1 hb1 CH c0 c1 c2 c3 c4 hq HI HS HD HKz hap3 hap4 hghl
      go_wp2
      go_loopw [3, 4, 7] (fun v3 v4 v7 ws => ∃ k : Nat, v7 = .int .i64 (k : Int) ∧ k ≤ q ∧ RowKit.Hid ((keyK L i k).Nodup) ∧ RowKit.Hid (IR w.heap.size v3 ((keyK L i k).map (·.1)) ws) ∧ RowKit.Hid (SN w.heap.size v4 ((keyK L i k).map (·.2)) ws) ∧ RowKit.Hid (apart v3 v4 ∧ apart v4 v3) ∧ RowKit.Hid (ws.ownsRow w.heap.size 9 1 (.slice (some ⟨gh, 0, none⟩) q ch) q ((hdsX a).map strB)) ∧ RowKit.Hid (apart (.slice (some ⟨gh, 0, none⟩) q ch) v3 ∧ apart (.slice (some ⟨gh, 0, none⟩) q ch) v4) ∧ RowKit.Hid (Below w.heap.size w ws)) (fun _ _ v7 _ => q - (intOf v7).toNat)
      case atStart => exact ⟨0, rfl, Nat.zero_le _, HD1, HI1, HS1, HAp, HRw, ⟨HA3.out, HA4.out⟩, B1⟩
      case round =>
        obtain ⟨k, rfl, hk, HDk, HIk, HSk, HAp2, HRw2, HAh, HBk⟩ := hrel
        clear HD1 HI1 HS1 HAp HRw HA3 HA4
        have BW := HBk
        by_cases hkq : k < q
        · have j1 : (0 : Int) ≤ (k : Int) := by omega
          have j2 : (k : Int) < (q : Int) := by omega
          obtain ⟨g2, o2, cap2, he, hg2, d0⟩ := (row_bl (L := hdsX a) (by rw [HQ.out]; exact HRw2.out)).at13 k (by rw [HQ.out]; exact hkq)
          obtain ⟨ha2, -, hcp⟩ := Value.slice.inj he
          obtain ⟨rfl, rfl, -⟩ := Addr.mk.inj (Option.some.inj ha2)
          rw [Nat.zero_add] at d0
          have hmx : (hdsX a).getD k [] ∈ hdsX a := mem_getD12 (hdsX a) k (by rw [HQ.out]; exact hkq)
          have cN := refNorm_any ((hdsX a).getD k []) (HVx.out _ hmx) (Nat.le_trans (HBx.out _ hmx) (by decide)) wr
          have hks := HKs.out k hkq
          have hkp := HKp.out k hkq
          have hkl := HKl.out k
          obtain ⟨x, hx⟩ : ∃ x, (hdsX a).getD k [] = x := ⟨_, rfl⟩
          rw [hx] at d0 cN hks hkp
          obtain ⟨z, hz⟩ : ∃ z, normX x = z := ⟨_, rfl⟩
          unfold keyO at hks hkp
          rw [hz] at cN hks hkp
          have CN := Lib.hid cN
          obtain ⟨K, hK⟩ : ∃ K, keyK L i k = K := ⟨_, rfl⟩
          rw [hK] at HDk HIk HSk hks hkp hkl
          have HKs2 := Lib.hid hks
          have HKp2 := Lib.hid hkp
          obtain ⟨m, hm⟩ : ∃ m, K.length = m := ⟨_, rfl⟩
          have HM := Lib.hid hm
          rw [hm] at hkl
          clear he hcp hmx cN hks hkp hx hz hK ha2 hm
          generalize S x = sx at *
          go_wp2_with fail
          refine CN.out.mono ?_
          rintro e w2 ⟨rfl, hb2⟩
          have HRw3 := Lib.hid (own_after HRw2.out hb2)
          have BW2 := Lib.hid (BW.out.trans (hb2.mono BW.out.size))
          have HI2 := Lib.hid (HIk.out.after hb2)
          have HS2 := Lib.hid (HSk.out.after hb2)
          have hSl : (K.map (·.2)).length = m := by rw [List.length_map, HM.out]
          have hIl : (K.map (·.1)).length = m := by rw [List.length_map, HM.out]
          have HSl := Lib.hid hSl
          have HIl := Lib.hid hIl
          obtain ⟨na, nc, hna, -, -⟩ := (row_bl HS2.out).length
          rw [hSl] at hna
          subst hna
          have hq := fun y => S_eq12 y z
          have HEq := Lib.hid hq
          obtain ⟨sz, hsz⟩ : ∃ b, S z = b := ⟨_, rfl⟩
          rw [hsz] at HEq ⊢
          have HSz := Lib.hid hsz
          clear hb2 CN d0 HIk HSk hSl hIl hq hsz
          go_wp2
          go_loopw [9] (fun v9 wt => ∃ j : Nat, v9 = .int .i64 (j : Int) ∧ j ≤ m ∧ RowKit.Hid (∀ j', j' < j → K.getD j' (0, []) ≠ (a.kind, z)) ∧ RowKit.Hid (Below w2.heap.size w2 wt)) (fun v9 _ => m - (intOf v9).toNat)
          case atStart => exact ⟨0, rfl, Nat.zero_le _, (fun j' hj' => by omega), Below.refl _ _⟩
          case round =>
            obtain ⟨j, rfl, hj, HJ, HBj⟩ := hrel
            have BJ := Lib.hid (BW2.out.trans (HBj.out.mono BW2.out.size))
            by_cases hjm : j < m
            · have l1 : (0 : Int) ≤ (j : Int) := by omega
              have l2 : (j : Int) < (m : Int) := by omega
              have hjK : j < K.length := by rw [HM.out]; exact hjm
              obtain ⟨gn, on, cn, hen, hgn, e0⟩ := (HS2.out.after HBj.out).at13 j (by rw [HSl.out]; exact hjm)
              obtain ⟨rfl, -, hcn⟩ := Value.slice.inj hen
              obtain ⟨gk, ok, ck, hek, hgk, e1⟩ := (HI2.out.after HBj.out).il.at13 j (by rw [HIl.out]; exact hjm)
              rw [HIl.out] at hek
              subst hek
              obtain ⟨-, c1, -, -, -, -⟩ := HRd.out wr BJ.out
              have hy : (K.map (·.2)).getD j [] = (K.getD j (0, [])).2 := by simp [List.getD_eq_getElem?_getD, List.getElem?_eq_getElem hjK]
              have hk2 : (K.map (·.1)).getD j 0 = (K.getD j (0, [])).1 := by simp [List.getD_eq_getElem?_getD, List.getElem?_eq_getElem hjK]
              have hmK : K.getD j (0, []) ∈ K := by
                rw [List.getD_eq_getElem?_getD, List.getElem?_eq_getElem hjK]
                exact List.getElem_mem _
              have HJ2 : RowKit.Hid (K.getD j (0, []) ≠ (a.kind, z) → ∀ j', j' < j + 1 → K.getD j' (0, []) ≠ (a.kind, z)) := by
                intro h0 j' hj'
                rcases Nat.lt_or_ge j' j with h | h
                · exact HJ.out j' h
                · rw [show j' = j by omega]; exact h0
              rw [hy] at e0
              rw [hk2] at e1
              obtain ⟨⟨ky, yy⟩, hky⟩ : ∃ x, K.getD j (0, []) = x := ⟨_, rfl⟩
              rw [hky] at e0 e1 hmK HJ2
              dsimp only at e0 e1
              have HMK := Lib.hid hmK
              have hqy := HEq.out yy
              obtain ⟨ak, hak⟩ : ∃ x, a.kind = x := ⟨_, rfl⟩
              rw [hak] at c1
              obtain ⟨sy, hsy⟩ : ∃ b, S yy = b := ⟨_, rfl⟩
              rw [hsy] at e0 hqy
              obtain ⟨b, hbb⟩ : ∃ b, decide (yy = z ∧ ky = ak) = b := ⟨_, rfl⟩
              have HBb := Lib.hid hbb
              have HAk := Lib.hid hak
              clear hen hcn hy hk2 hmK hky hsy hbb hak hjK
              go_upto_region 14 with fail
              go_cut [55] from 38 to 55 (fun r wx => r = .bool b ∧ Below wr.heap.size wr wx)
              case first =>
                by_cases h1 : yy = z
                · rw [decide_eq_true h1] at hqy
                  by_cases h2 : ky = ak
                  · have hb : b = true := by rw [← HBb.out]; exact decide_eq_true ⟨h1, h2⟩
                    subst hb
                    have t2 : (ky == ak) = true := by simpa using h2
                    clear h1 h2 HBb
                    go_region
                    go_wp2_with fail
                    go_meet
                    exact ⟨by first | rfl | simp_all, (Below.refl _ _).drew⟩
                  · have hb : b = false := by rw [← HBb.out]; exact decide_eq_false (fun h => h2 h.2)
                    subst hb
                    have t2 : (ky == ak) = false := by simpa using h2
                    clear h1 h2 HBb
                    go_region
                    go_wp2_with fail
                    go_meet
                    exact ⟨by first | rfl | simp_all, (Below.refl _ _).drew⟩
                · rw [decide_eq_false h1] at hqy
                  have hb : b = false := by rw [← HBb.out]; exact decide_eq_false (fun h => h1 h.1)
                  subst hb
                  clear h1 HBb
                  go_region
                  go_wp2_with fail
                  go_meet
                  exact ⟨by first | rfl | simp_all, (Below.refl _ _).drew⟩
              case rest =>
                obtain ⟨rfl, hwx⟩ := hcut
                have HBx := Lib.hid (HBj.out.trans (hwx.mono HBj.out.size))
                have BX := Lib.hid (BJ.out.trans (hwx.mono BJ.out.size))
                clear hwx c1 e0 e1 hqy
                cases b with
                | true =>
                  have hd := HYes.out (by
                    obtain ⟨h1, h2⟩ := of_decide_eq_true HBb.out
                    obtain ⟨r, hr⟩ := HKp2.out
                    intro hnd
                    rw [hr, List.nodup_append] at hnd
                    have h3 := HMK.out
                    rw [h1, h2, ← HAk.out] at h3
                    exact hnd.2.2 _ h3 _ (by simp) rfl)
                  subst hd
                  have hno := BX.out
                  clear HYes HNo HJ2 HBb HMK
                  go_wp2
                  first | exact ⟨rfl, hno⟩ | (go_ret; exact ⟨rfl, hno⟩)
                | false =>
                  have HJ3 := Lib.hid (HJ2.out (by
                    intro h
                    have h2 := of_decide_eq_false HBb.out
                    have h3 := Prod.mk.inj h
                    exact h2 ⟨h3.2, h3.1.trans HAk.out⟩))
                  clear HJ2 HBb HMK
                  go_wp2
                  go_roundw
                  case rel => exact ⟨j + 1, by go_num, by omega, HJ3.out, HBx⟩
                  case measure => simp [intOf]; omega
            · obtain rfl : j = m := by omega
              have hnd : (K ++ [(a.kind, z)]).Nodup := by
                rw [List.nodup_append]
                refine ⟨HDk.out, by simp, fun x hx y hy => ?_⟩
                rw [List.mem_singleton.1 hy]
                intro e
                subst e
                obtain ⟨j', hj', he⟩ := List.mem_iff_getElem.1 hx
                exact HJ.out j' (by rw [← HM.out]; exact hj') (by rw [List.getD_eq_getElem?_getD, List.getElem?_eq_getElem hj', he]; rfl)
              have HDk2 : RowKit.Hid ((keyK L i (k + 1)).Nodup) := by
                unfold RowKit.Hid
                rw [HKs2.out]
                exact hnd
              have HS4 := Lib.hid (HS2.out.after HBj.out)
              have HI4 := Lib.hid (HI2.out.after HBj.out)
              have HR4 := Lib.hid (own_after HRw3.out HBj.out)
              have hsz4 : w.heap.size ≤ wr.heap.size := BJ.out.size
              rw [← HSz.out]
              have hSl3 : (K.map (·.2)).length ≤ 10000000 := by rw [HSl.out]; omega
              have hIl3 : (K.map (·.1)).length ≤ 10000000 := by rw [HIl.out]; omega
              clear hnd HJ HDk
              go_upto_region 16 with fail
              go_wp2_with (at_builtin; go_loud (refine append_sn2 _ rfl _ _ rfl w.heap.size (.slice na j nc) (K.map (·.2)) z rfl HS4.out rfl hSl3 hsz4 w.heap.size w (Nat.le_refl _) BJ.out ?_))
              intro v4' w5 hsn5 hg5 hbk5 hb5 hsz5
              replace hbk5 : v4'.ownBlock = (Value.slice na j nc).ownBlock ∨ v4'.ownBlock = some (wr.alloc (.cells #[strB z] 9)).heap.size := by
                rw [show (wr.alloc (.cells #[strB z] 9)).heap.size = wr.heap.size + 1 by simp]; exact hbk5
              have hI5 := own_apart (World.ownsRow.alloc HI4.out _) hg5 HAp2.out.1 hbk5
              have hR5 := own_apart (World.ownsRow.alloc HR4.out _) hg5 HAh.out.2 hbk5
              have hA5 := apart_new (World.ownsRow.alloc HI4.out _) HAp2.out.2 hbk5
              have HS5 := Lib.hid hsn5
              have HI5 := Lib.hid hI5
              have HI5r : RowKit.Hid (IR w.heap.size u3 (K.map (·.1)) w5) := hI5.1
              have HR5 := Lib.hid hR5
              have HA5 := Lib.hid hA5
              have HB5 := Lib.hid hb5
              obtain ⟨-, c1, -, -, -, -⟩ := HRd.out w5 hb5
              clear hsn5 hg5 hbk5 hb5 hI5 hR5 hA5 HS4 HR4
              go_wp2_with (at_builtin; go_loud (refine append_ir2 _ rfl _ _ rfl w.heap.size u3 (K.map (·.1)) a.kind rfl HI5r.out rfl hIl3 hsz5 w.heap.size w (Nat.le_refl _) HB5.out ?_))
              intro v3' w6 hir6 hg6 hbk6 hb6 hsz6
              replace hbk6 : v3'.ownBlock = u3.ownBlock ∨ v3'.ownBlock = some (w5.alloc (.cells #[intV a.kind] 3)).heap.size := by
                rw [show (w5.alloc (.cells #[intV a.kind] 3)).heap.size = w5.heap.size + 1 by simp]; exact hbk6
              have hS6 := own_apart (World.ownsRow.alloc HS5.out _) hg6 HA5.out hbk6
              have hR6 := own_apart (World.ownsRow.alloc HR5.out.1 _) hg6 HAh.out.1 hbk6
              have hA6 := apart_new (World.ownsRow.alloc HS5.out _) HI5.out.2 hbk6
              have hh4 : apart (.slice (some ⟨gh, 0, none⟩) q ch) v4' := HR5.out.2
              have HI6 : RowKit.Hid (IR w.heap.size v3' ((keyK L i (k + 1)).map (·.1)) w6) := by
                unfold RowKit.Hid
                rw [HKs2.out, List.map_append]
                exact hir6
              have HS6 : RowKit.Hid (SN w.heap.size v4' ((keyK L i (k + 1)).map (·.2)) w6) := by
                unfold RowKit.Hid
                rw [HKs2.out, List.map_append]
                exact hS6.1
              have HFn := Lib.hid (And.intro (And.intro hA6 hS6.2) (And.intro hR6.1 (And.intro (And.intro hR6.2 hh4) hb6)))
              clear hir6 hg6 hbk6 hb6 hS6 hR6 hA6 hh4 HI4 HS5 HI5 HR5 HA5
              go_wp2
              go_roundw
              case rel => exact ⟨k + 1, by go_num, by omega, HDk2, HI6, HS6, HFn.out.1, HFn.out.2.1, HFn.out.2.2.1, HFn.out.2.2.2⟩
              case measure => simp [intOf]; omega
        · obtain rfl : k = q := by omega
          have HD3 : RowKit.Hid ((keysX (L.take (i + 1))).Nodup) := by
            unfold RowKit.Hid
            rw [← HKa.out]
            exact HDk.out
          have HI3 : RowKit.Hid (IR w.heap.size u3 ((keysX (L.take (i + 1))).map (·.1)) wr) := by
            unfold RowKit.Hid
            rw [← HKa.out]
            exact HIk.out
          have HS3 : RowKit.Hid (SN w.heap.size u4 ((keysX (L.take (i + 1))).map (·.2)) wr) := by
            unfold RowKit.Hid
            rw [← HKa.out]
            exact HSk.out
          clear HDk HIk HSk
          go_wp2
          go_roundw
          case rel => exact ⟨i + 1, by go_num, by omega, HD3, HI3, HS3, HAp2, BW⟩
          case measure => simp [intOf]; omega
    · obtain rfl : i = n := by omega
      have hm := HNo.out (by
        have h := HD.out
        rw [show L.take i = L by rw [← HN.out, List.take_length]] at h
        exact h)
      subst hm
      clear HYes HNo
      go_wp2
      first | exact ⟨rfl, HB.out⟩ | (go_ret; exact ⟨rfl, HB.out⟩)
end

section
open Go.RowKit Go.PlainAid
def SP.il13k (l : List Int) : SP := ⟨fun v w => IL v l w, fun _ _ _ h hb => h.after hb⟩
def prevI (L : List Au) (i : Nat) : Option Int := if i = 0 then none else some (L.getD (i - 1) au0).id
theorem drop_consA (L : List Au) (i : Nat) (h : i < L.length) : L.drop i = L.getD i au0 :: L.drop (i + 1) := by
  rw [List.drop_eq_getElem_cons h, getD_at13 L i h]
theorem ones_go (L : List Au) (i : Nat) (h : i < L.length) : onesI (prevI L i) (L.drop i) = if oneI (prevI L i) (L.getD i au0) ≠ 0 then oneI (prevI L i) (L.getD i au0) else onesI (prevI L (i + 1)) (L.drop (i + 1)) := by
  rw [drop_consA L i h, onesI]
  have e : prevI L (i + 1) = some (L.getD i au0).id := by
    unfold prevI
    rw [if_neg (by omega), Nat.add_sub_cancel]
  rw [e]
theorem one_range (p : Option Int) (a : Au) (h : a.id < 1 ∨ 9999 < a.id) : oneI p a = 2 := by
  unfold oneI
  rw [if_pos h]
theorem one_before (x : Int) (a : Au) (h : ¬ (a.id < 1 ∨ 9999 < a.id)) (h2 : a.id ≤ x) : oneI (some x) a = 7 := by
  unfold oneI
  rw [if_neg h, if_pos (by simpa using h2)]
theorem one_after (p : Option Int) (a : Au) (h : ¬ (a.id < 1 ∨ 9999 < a.id)) (h2 : ∀ x, p = some x → ¬ a.id ≤ x) : oneI p a = shapeI a := by
  unfold oneI
  rw [if_neg h, if_neg]
  cases p with
  | none => simp
  | some x => simpa using h2 x rfl
theorem asc_iff : ∀ l : List Int, ascI l = true ↔ ∀ k, 1 ≤ k → k < l.length → l.getD (k - 1) 0 < l.getD k 0
  | [] => by simp [ascI]
  | [x] => by
    simp only [ascI, true_iff]
    intro k h1 h2
    simp at h2
    omega
  | x :: y :: r => by
    rw [ascI, Bool.and_eq_true, decide_eq_true_iff, asc_iff (y :: r)]
    constructor
    · rintro ⟨h1, h2⟩ k hk hl
      match k, hk with
      | 1, _ => exact h1
      | k + 2, _ =>
        have := h2 (k + 1) (by omega) (by simpa using hl)
        simpa using this
    · intro h
      refine ⟨h 1 (Nat.le_refl _) (by simp), fun k hk hl => ?_⟩
      have := h (k + 1) (by omega) (by simpa using hl)
      match k, hk with
      | k + 1, _ => simpa using this
theorem mapA_getD (f : Au → Int) (L : List Au) (j : Nat) (h : j < L.length) : (L.map f).getD j 0 = f (L.getD j au0) := by
  simp [List.getD_eq_getElem?_getD, List.getElem?_eq_getElem h]
theorem shape_small13 (a : Au) (h : shapeI a = 0) : ∀ x ∈ hdsX a, validT x = true := by
  unfold shapeI at h
  split at h
  · cases h
  · by_cases hf : firstI ((hdsX a).map (hdE a.kind)) = 0
    · intro x hx
      have hd := firstI_all _ hf _ (List.mem_map.2 ⟨x, hx, rfl⟩)
      rw [hdE_eq] at hd
      cases hv : validT x with
      | true => rfl
      | false =>
        have hb : badH a.kind x = true := by
          unfold badH
          rw [hv]
          rfl
        rw [if_pos hb] at hd
        cases hd
    · rw [if_pos hf] at h
      exact absurd h hf
def upOk (L : List Au) (a : Au) (n : Int) : Bool := match getA L n with
  | some x => decide (x.kind = a.kind)
  | none => false
theorem abvE_eq (L : List Au) (a : Au) : abvE L a = if 4 < a.above.length then 13 else if ascI a.above = false then 7 else if (a.above.all (upOk L a)) = false then 9 else 0 := rfl
theorem right_eq (L : List Au) (h : L.length ≤ 64) : rightA L = if onesI none L ≠ 0 then onesI none L else if ¬ (keysX L).Nodup then 7 else
    if firstI (L.map (abvE L)) ≠ 0 then firstI (L.map (abvE L)) else if (L.any fun a => decide (a.id ∈ aboveA L a.id)) = true then 11 else 0 := by
  unfold rightA
  rw [if_neg (by omega)]
set_option maxHeartbeats 64000000 in
set_option maxRecDepth 100000 in
theorem refRight13_any (v : Value) (L : List Au) (w : World) (hv : AL v L w) (hb : bnd L) :
    Calls Tryz.prog 9 #[v] w fun e w' => e = .returned (.int .i64 (rightA L)) ∧ Below w.heap.size w w' := by
  obtain ⟨res, hres⟩ : ∃ z, rightA L = z := ⟨_, rfl⟩
  rw [hres]
  have hreq := (right_eq L hb.1).symm.trans hres
  have HR1 : RowKit.Hid (∀ z, onesI none L = z → z ≠ 0 → res = z) := by
    intro z hz h0
    rw [hz, if_pos h0] at hreq
    exact hreq.symm
  have HR2 : RowKit.Hid (onesI none L = 0 → ¬ (keysX L).Nodup → res = 7) := by
    intro h0 h1
    rw [h0, if_neg (fun g => g rfl), if_pos h1] at hreq
    exact hreq.symm
  have HR3 : RowKit.Hid (onesI none L = 0 → (keysX L).Nodup → ∀ z, firstI (L.map (abvE L)) = z → z ≠ 0 → res = z) := by
    intro h0 h1 z hz h2
    rw [h0, if_neg (fun g => g rfl), if_neg (fun g => g h1), hz, if_pos h2] at hreq
    exact hreq.symm
  have HR4 : RowKit.Hid (onesI none L = 0 → (keysX L).Nodup → firstI (L.map (abvE L)) = 0 → (L.any fun a => decide (a.id ∈ aboveA L a.id)) = true → res = 11) := by
    intro h0 h1 h2 h3
    rw [h0, if_neg (fun g => g rfl), if_neg (fun g => g h1), h2, if_neg (fun g => g rfl), if_pos h3] at hreq
    exact hreq.symm
  have HR5 : RowKit.Hid (onesI none L = 0 → (keysX L).Nodup → firstI (L.map (abvE L)) = 0 → (L.any fun a => decide (a.id ∈ aboveA L a.id)) = false → res = 0) := by
    intro h0 h1 h2 h3
    rw [h0, if_neg (fun g => g rfl), if_neg (fun g => g h1), h2, if_neg (fun g => g rfl), if_neg (by rw [h3]; decide)] at hreq
    exact hreq.symm
  have HV := Lib.hid hv
  have HAl := Lib.hid (fun (W : World) (h : Below w.heap.size w W) => hv.after h)
  have HBn := Lib.hid hb
  obtain ⟨va, vc, rfl, hc1, hc2⟩ := hv.length
  obtain ⟨n, hn⟩ : ∃ n, L.length = n := ⟨_, rfl⟩
  have HN := Lib.hid hn
  have hn64 : n ≤ 64 := by rw [← hn]; exact hb.1
  rw [hn] at HV HAl hc1 ⊢
  have t64 : decide ((64 : Int) < (n : Int)) = false := decide_eq_false (by omega)
  have t64n : decide (64 < n) = false := decide_eq_false (by omega)
  clear hres hreq hv hb hn
  go_enter Tryz.func9, Tryz.ntmps9
  go_wp2
  clear t64 t64n
  go_loopw [3] (fun v3 wr => ∃ i : Nat, v3 = .int .i64 (i : Int) ∧ i ≤ n ∧ RowKit.Hid (onesI (prevI L i) (L.drop i) = onesI none L) ∧ RowKit.Hid (Below w.heap.size w wr)) (fun v3 _ => n - (intOf v3).toNat)
  case atStart => exact ⟨0, rfl, Nat.zero_le _, rfl, Below.refl _ _⟩
  case round =>
    obtain ⟨i, rfl, hi, HO, HB⟩ := hrel
    by_cases hin : i < n
    · have i1 : (0 : Int) ≤ (i : Int) := by omega
      have i2 : (i : Int) < (n : Int) := by omega
      have hil : i < L.length := by rw [HN.out]; exact hin
      have hmem := mem_getDA L i hil
      obtain ⟨g, o, cap, s, t, he, hg, hrd⟩ := HV.out.read i hil
      obtain ⟨rfl, -, hcp⟩ := Value.slice.inj he
      subst hcp
      have HRd := Lib.hid hrd
      have hgo := ones_go L i hil
      rw [HO.out] at hgo
      have hba := HBn.out.2 _ hmem
      have HPv : RowKit.Hid (0 < i → ∃ pid, prevI L i = some pid ∧ ∀ W, Below w.heap.size w W → W.cell? ⟨g, o + (i - 1) * 5, none⟩ = some (.int .i64 pid)) := by
        intro h0
        refine ⟨(L.getD (i - 1) au0).id, by unfold prevI; rw [if_neg (by omega)], fun W hW => ?_⟩
        obtain ⟨g2, o2, cap2, s2, t2, he2, hg2, hrd2⟩ := HV.out.read (i - 1) (by omega)
        obtain ⟨ha2, -, -⟩ := Value.slice.inj he2
        obtain ⟨rfl, rfl, -⟩ := Addr.mk.inj (Option.some.inj ha2)
        exact (hrd2 W hW).1
      obtain ⟨a, ha⟩ : ∃ a, L.getD i au0 = a := ⟨_, rfl⟩
      rw [ha] at HRd hgo hba
      have HGo := Lib.hid hgo
      have HBa := Lib.hid hba
      have cSh := Lib.hid (fun (s t : Value) (W : World) (h : AN a s t W) => refShape_any a s t W h (by have := hba.1; omega) hba.2.2 (shapeI a) rfl)
      obtain ⟨c0, c1, c2, c3, c4, hAN⟩ := HRd.out wr HB.out
      clear he hrd hmem hgo hba ha hil HO
      by_cases hr1 : a.id < 1
      · have hm := HR1.out 2 (by rw [HGo.out, one_range _ _ (.inl hr1)]; rfl) (by decide)
        subst hm
        have t1 : decide (a.id < 1) = true := decide_eq_true hr1
        have hno := HB.out
        clear HR1 HR2 HR3 HR4 HR5 HGo cSh hr1 HPv
        go_wp2
        first | exact ⟨rfl, hno⟩ | (go_ret; exact ⟨rfl, hno⟩)
      have t1 : decide (a.id < 1) = false := decide_eq_false hr1
      by_cases hr2 : 9999 < a.id
      · have hm := HR1.out 2 (by rw [HGo.out, one_range _ _ (.inr hr2)]; rfl) (by decide)
        subst hm
        have t2 : decide (9999 < a.id) = true := decide_eq_true hr2
        have hno := HB.out
        clear HR1 HR2 HR3 HR4 HR5 HGo cSh hr1 hr2 HPv
        go_wp2
        first | exact ⟨rfl, hno⟩ | (go_ret; exact ⟨rfl, hno⟩)
      have t2 : decide (9999 < a.id) = false := decide_eq_false hr2
      have hrr : ¬ (a.id < 1 ∨ 9999 < a.id) := fun h => h.elim hr1 hr2
      have HRr := Lib.hid hrr
      obtain ⟨bb, hbb⟩ : ∃ b, decide (0 < i ∧ ∃ x, prevI L i = some x ∧ a.id ≤ x) = b := ⟨_, rfl⟩
      have HBb := Lib.hid hbb
      clear hr1 hr2 hrr hbb
      go_upto_region 8 with fail
      go_cut [50] from 35 to 50 (fun r wx => r = .bool bb ∧ Below wr.heap.size wr wx)
      case first =>
        by_cases h0 : 0 < i
        · obtain ⟨pid, hp, hcl⟩ := HPv.out h0
          have d0 := hcl wr HB.out
          obtain ⟨i', rfl⟩ : ∃ i', i = i' + 1 := ⟨i - 1, by omega⟩
          rw [Nat.add_sub_cancel] at d0
          have hb : bb = decide (a.id ≤ pid) := by
            rw [← HBb.out]
            by_cases h : a.id ≤ pid
            · rw [decide_eq_true h]; exact decide_eq_true ⟨h0, pid, hp, h⟩
            · rw [decide_eq_false h]; exact decide_eq_false (fun ⟨_, x, hx, hle⟩ => h (by rw [hp] at hx; cases hx; exact hle))
          subst hb
          have u1 : decide ((0 : Int) < ((i' + 1 : Nat) : Int)) = true := decide_eq_true (by omega)
          have u2 : ((i' + 1 : Nat) : Int) - 1 = (i' : Int) := by omega
          clear HBb hp hcl HPv h0
          go_region
          go_wp2_with fail
          go_meet
          exact ⟨by first | rfl | simp_all, (Below.refl _ _).drew⟩
        · obtain rfl : i = 0 := by omega
          have hb : bb = false := by rw [← HBb.out]; exact decide_eq_false (fun h => h0 h.1)
          subst hb
          clear HBb HPv h0
          go_region
          go_wp2_with fail
          go_meet
          exact ⟨by first | rfl | simp_all, (Below.refl _ _).drew⟩
      case rest =>
        obtain ⟨rfl, hwx⟩ := hcut
        have HB2 := Lib.hid (HB.out.trans (hwx.mono HB.out.size))
        clear hwx c0 c1 c2 c3 c4 t1 t2 HPv
        cases bb with
        | true =>
          have hm := HR1.out 7 (by
            obtain ⟨h0, x, hx, hle⟩ := of_decide_eq_true HBb.out
            rw [HGo.out, hx, one_before x a HRr.out hle]
            rfl) (by decide)
          subst hm
          have hno := HB2.out
          clear HR1 HR2 HR3 HR4 HR5 HGo cSh HBb
          go_wp2
          first | exact ⟨rfl, hno⟩ | (go_ret; exact ⟨rfl, hno⟩)
        | false =>
          have HSe : RowKit.Hid (oneI (prevI L i) a = shapeI a) := one_after _ a HRr.out (fun x hx hle => by
            have h0 : 0 < i := by
              by_cases h0 : 0 < i
              · exact h0
              · exfalso
                unfold prevI at hx
                rw [if_pos (by omega)] at hx
                cases hx
            exact of_decide_eq_false HBb.out ⟨h0, x, hx, hle⟩)
          obtain ⟨c0, c1, c2, c3, c4, hAN⟩ := HRd.out wc HB2.out
          have cS := cSh.out s t wc hAN
          obtain ⟨sa, sc, hs1, -, -⟩ := hAN.1.length
          obtain ⟨ta, tc, ht1, -⟩ := hAN.2.length
          subst hs1 ht1
          unfold AV at cS
          have CS := Lib.hid cS
          obtain ⟨es, hes⟩ : ∃ z, shapeI a = z := ⟨_, rfl⟩
          rw [hes] at HSe CS
          clear cSh hAN cS hes HBb HRr
          go_wp2_with fail
          refine CS.out.mono ?_
          rintro e w2 ⟨rfl, hb2⟩
          have HB3 := Lib.hid (HB2.out.trans (hb2.mono HB2.out.size))
          clear hb2 CS c0 c1 c2 c3 c4
          by_cases h0 : es = 0
          · have HO2 : RowKit.Hid (onesI (prevI L (i + 1)) (L.drop (i + 1)) = onesI none L) := by
              have h := HGo.out
              rw [HSe.out, h0, if_neg (fun g => g rfl)] at h
              exact h.symm
            subst h0
            clear HGo HSe
            go_wp2
            go_roundw
            case rel => exact ⟨i + 1, by go_num, by omega, HO2, HB3⟩
            case measure => simp [intOf]; omega
          · have hm := HR1.out es (by
              have h := HGo.out
              rw [HSe.out, if_pos h0] at h
              exact h) h0
            subst hm
            have t0 : (res == 0) = false := by simpa using h0
            have t0m : (res != 0) = true := by simpa using h0
            have hno := HB3.out
            clear HR1 HR2 HR3 HR4 HR5 HGo HSe h0
            go_wp2
            first | exact ⟨rfl, hno⟩ | (go_ret; exact ⟨rfl, hno⟩)
    · have hni : n = i := by omega
      subst hni
      have h1 : onesI none L = 0 := by
        have h := HO.out
        rw [List.drop_of_length_le (by rw [HN.out]; exact Nat.le_refl _)] at h
        exact h.symm
      have HO1 := Lib.hid h1
      have hval : ∀ a ∈ L, ∀ x ∈ hdsX a, validT x = true := fun a ha x hx => ((shape_small13 a ((ones_out L none h1).2.1 a ha).1) x hx)
      have cT := refTwice_any _ L wr (HAl.out wr HB.out) HBn.out hval
      obtain ⟨tb, htb⟩ : ∃ b, (!decide (keysX L).Nodup) = b := ⟨_, rfl⟩
      rw [htb] at cT
      have CT := Lib.hid cT
      have HTb := Lib.hid htb
      clear h1 hval cT htb HO HR1
      go_wp2_with fail
      refine CT.out.mono ?_
      rintro e w2 ⟨rfl, hb2⟩
      have HB2 := Lib.hid (HB.out.trans (hb2.mono HB.out.size))
      clear hb2 CT
      cases tb with
      | true =>
        have hm := HR2.out HO1.out (by
          intro h
          have h2 := HTb.out
          rw [decide_eq_true h] at h2
          cases h2)
        subst hm
        have hno := HB2.out
        clear HR2 HR3 HR4 HR5
        go_wp2
        first | exact ⟨rfl, hno⟩ | (go_ret; exact ⟨rfl, hno⟩)
      | false =>
      have hnd : (keysX L).Nodup := by
        by_cases h : (keysX L).Nodup
        · exact h
        · have h2 := HTb.out
          rw [decide_eq_false h] at h2
          cases h2
      have HR3' := Lib.hid (HR3.out HO1.out hnd)
      have HR4' := Lib.hid (HR4.out HO1.out hnd)
      have HR5' := Lib.hid (HR5.out HO1.out hnd)
      clear HR2 HR3 HR4 HR5 hnd HTb
      go_wp2
      go_loopw [5] (fun v5 wr => ∃ i : Nat, v5 = .int .i64 (i : Int) ∧ i ≤ n ∧ RowKit.Hid (∀ j, j < i → abvE L (L.getD j au0) = 0) ∧ RowKit.Hid (Below w.heap.size w wr)) (fun v5 _ => n - (intOf v5).toNat)
      case atStart => exact ⟨0, rfl, Nat.zero_le _, (fun j hj => by omega), HB2⟩
      case round =>
        obtain ⟨p, rfl, hp, HJ, HB3⟩ := hrel
        by_cases hpn : p < n
        · have i1 : (0 : Int) ≤ (p : Int) := by omega
          have i2 : (p : Int) < (n : Int) := by omega
          have hil : p < L.length := by rw [HN.out]; exact hpn
          obtain ⟨g, o, cap, s, t, he, hg, hrd⟩ := HV.out.read p hil
          obtain ⟨rfl, -, hcp⟩ := Value.slice.inj he
          subst hcp
          have HRd := Lib.hid hrd
          have hba := HBn.out.2 _ (mem_getDA L p hil)
          have HErr : RowKit.Hid (∀ z, abvE L (L.getD p au0) = z → z ≠ 0 → res = z) := by
            intro z hz h0
            refine HR3'.out z ?_ h0
            have h := firstI_at (L.map (abvE L)) p (by rw [List.length_map]; exact hil) (fun j hj => by rw [mapA_getD _ _ j (by omega)]; exact HJ.out j hj) (by rw [mapA_getD _ _ p hil, hz]; exact h0)
            rw [h, mapA_getD _ _ p hil, hz]
          have HJ2 : RowKit.Hid (abvE L (L.getD p au0) = 0 → ∀ j, j < p + 1 → abvE L (L.getD j au0) = 0) := by
            intro h0 j hj
            rcases Nat.lt_or_ge j p with h | h
            · exact HJ.out j h
            · rw [show j = p by omega]; exact h0
          obtain ⟨a, ha⟩ : ∃ a, L.getD p au0 = a := ⟨_, rfl⟩
          rw [ha] at HRd hba HErr HJ2
          have hae := abvE_eq L a
          obtain ⟨c0, c1, c2, c3, c4, hAN⟩ := HRd.out wr HB3.out
          obtain ⟨ta, tc, ht1, -⟩ := hAN.2.length
          have hnt100 := hba.2.1
          obtain ⟨nt, hnt⟩ : ∃ n, a.above.length = n := ⟨_, rfl⟩
          rw [hnt] at ht1 hae hnt100
          subst ht1
          have HNt := Lib.hid hnt
          have HAe := Lib.hid hae
          have HIL := Lib.hid (fun (W : World) (h : Below w.heap.size w W) => (HRd.out W h).2.2.2.2.2.2)
          clear he hrd hba ha hae hAN hnt hil HJ
          by_cases h4 : 4 < nt
          · have hm := HErr.out 13 (by rw [HAe.out, if_pos h4]) (by decide)
            subst hm
            have t4 : decide ((4 : Int) < (nt : Int)) = true := decide_eq_true (by omega)
            have t4n : decide (4 < nt) = true := decide_eq_true h4
            have hno := HB3.out
            clear HErr HJ2 HAe h4 HR3' HR4' HR5'
            go_wp2
            first | exact ⟨rfl, hno⟩ | (go_ret; exact ⟨rfl, hno⟩)
          have t4 : decide ((4 : Int) < (nt : Int)) = false := decide_eq_false (by omega)
          have t4n : decide (4 < nt) = false := decide_eq_false h4
          have hae2 : abvE L a = if ascI a.above = false then 7 else if (a.above.all (upOk L a)) = false then 9 else 0 := by rw [HAe.out, if_neg h4]
          have HAe2 := Lib.hid hae2
          clear hae2 HAe h4
          go_wp2
          go_loopw [7] (fun v7 ws => ∃ k : Nat, v7 = .int .i64 (k : Int) ∧ 1 ≤ k ∧ k ≤ nt + 1 ∧ RowKit.Hid (∀ j, 1 ≤ j → j < k → j < nt → a.above.getD (j - 1) 0 < a.above.getD j 0) ∧ RowKit.Hid (Below w.heap.size w ws)) (fun v7 _ => nt + 1 - (intOf v7).toNat)
          case atStart => exact ⟨1, rfl, Nat.le_refl _, by omega, (fun j h1 h2 h3 => by omega), HB3⟩
          case round =>
            obtain ⟨k, rfl, hk1, hk2, HK, HBk⟩ := hrel
            by_cases hkn : k < nt
            · have j1 : (0 : Int) ≤ (k : Int) := by omega
              have j2 : (k : Int) < (nt : Int) := by omega
              obtain ⟨k', hk'⟩ : ∃ k', k = k' + 1 := ⟨k - 1, by omega⟩
              have j3 : (k : Int) - 1 = (k' : Int) := by omega
              have j4 : (0 : Int) ≤ (k' : Int) := by omega
              have j5 : (k' : Int) < (nt : Int) := by omega
              obtain ⟨g2, o2, cap2, he2, hg2, d0⟩ := (HIL.out wr HBk.out).at13 k (by rw [HNt.out]; exact hkn)
              obtain ⟨rfl, -, hcp2⟩ := Value.slice.inj he2
              obtain ⟨g3, o3, cap3, he3, hg3, d1⟩ := (HIL.out wr HBk.out).at13 k' (by rw [HNt.out]; omega)
              obtain ⟨ha3, -, -⟩ := Value.slice.inj he3
              obtain ⟨rfl, rfl, -⟩ := Addr.mk.inj (Option.some.inj ha3)
              have HK2 : RowKit.Hid (a.above.getD k' 0 < a.above.getD k 0 → ∀ j, 1 ≤ j → j < k + 1 → j < nt → a.above.getD (j - 1) 0 < a.above.getD j 0) := by
                intro h0 j h1 h2 h3
                rcases Nat.lt_or_ge j k with h | h
                · exact HK.out j h1 h h3
                · rw [show j = k by omega, show k - 1 = k' by omega]; exact h0
              have HBd : RowKit.Hid (a.above.getD k 0 ≤ a.above.getD k' 0 → ascI a.above = false) := by
                intro h
                rw [Bool.eq_false_iff]
                intro g
                have := (asc_iff a.above).1 g k (by omega) (by rw [HNt.out]; exact hkn)
                rw [show k - 1 = k' by omega] at this
                omega
              obtain ⟨x, hx⟩ : ∃ x, a.above.getD k 0 = x := ⟨_, rfl⟩
              obtain ⟨y, hy⟩ : ∃ y, a.above.getD k' 0 = y := ⟨_, rfl⟩
              rw [hx] at d0 HK2 HBd
              rw [hy] at d1 HK2 HBd
              clear he2 he3 hcp2 ha3 hx hy hk'
              obtain ⟨bq, hbq⟩ : ∃ b, decide (x ≤ y) = b := ⟨_, rfl⟩
              have HBq := Lib.hid hbq
              clear hbq
              go_upto_region 24 with fail
              go_cut [90] from 81 to 90 (fun r wx => r = .bool bq ∧ Below wr.heap.size wr wx)
              case first =>
                clear HK HK2 HBd
                by_cases hxy : x ≤ y
                · have hb : bq = true := by rw [← HBq.out]; exact decide_eq_true hxy
                  subst hb
                  have u1 : decide (x ≤ y) = true := decide_eq_true hxy
                  clear HBq
                  go_region
                  go_wp2_with fail
                  go_meet
                  exact ⟨by first | rfl | simp_all, (Below.refl _ _).drew⟩
                · have hb : bq = false := by rw [← HBq.out]; exact decide_eq_false hxy
                  subst hb
                  have u1 : decide (x ≤ y) = false := decide_eq_false hxy
                  clear HBq
                  go_region
                  go_wp2_with fail
                  go_meet
                  exact ⟨by first | rfl | simp_all, (Below.refl _ _).drew⟩
              case rest =>
                obtain ⟨rfl, hwx⟩ := hcut
                have HBx := Lib.hid (HBk.out.trans (hwx.mono HBk.out.size))
                clear hwx d0 d1
                cases bq with
                | true =>
                  have hm := HErr.out 7 (by rw [HAe2.out, if_pos (HBd.out (of_decide_eq_true HBq.out))]) (by decide)
                  subst hm
                  have hno := HBx.out
                  clear HErr HJ2 HAe2 HK2 HBd HK HBq HR3' HR4' HR5'
                  go_wp2
                  first | exact ⟨rfl, hno⟩ | (go_ret; exact ⟨rfl, hno⟩)
                | false =>
                  have HK3 := Lib.hid (HK2.out (by have := of_decide_eq_false HBq.out; omega))
                  clear HK2 HBd HK HBq
                  go_wp2
                  go_roundw
                  case rel => exact ⟨k + 1, by go_num, by omega, by omega, HK3.out, HBx⟩
                  case measure => simp [intOf]; omega
            · have hasc : ascI a.above = true := (asc_iff a.above).2 (fun j h1 h2 => HK.out j h1 (by rw [HNt.out] at h2; omega) (by rw [HNt.out] at h2; exact h2))
              have hae3 : abvE L a = if (a.above.all (upOk L a)) = false then 9 else 0 := by rw [HAe2.out, if_neg (by rw [hasc]; decide)]
              have HAe3 := Lib.hid hae3
              have t5 : decide ((k : Int) < (nt : Int)) = false := decide_eq_false (by omega)
              clear hasc hae3 HAe2 HK
              go_wp2
              go_loopw [8] (fun v8 wt => ∃ k : Nat, v8 = .int .i64 (k : Int) ∧ k ≤ nt ∧ RowKit.Hid (∀ j, j < k → upOk L a (a.above.getD j 0) = true) ∧ RowKit.Hid (Below w.heap.size w wt)) (fun v8 _ => nt - (intOf v8).toNat)
              case atStart => exact ⟨0, rfl, Nat.zero_le _, (fun j hj => by omega), HBk⟩
              case round =>
                clear t5
                obtain ⟨q, rfl, hq, HQ, HBq⟩ := hrel
                by_cases hqn : q < nt
                · have j1 : (0 : Int) ≤ (q : Int) := by omega
                  have j2 : (q : Int) < (nt : Int) := by omega
                  obtain ⟨g2, o2, cap2, he2, hg2, d0⟩ := (HIL.out wr HBq.out).at13 q (by rw [HNt.out]; exact hqn)
                  obtain ⟨rfl, -, hcp2⟩ := Value.slice.inj he2
                  have HQ2 : RowKit.Hid (upOk L a (a.above.getD q 0) = true → ∀ j, j < q + 1 → upOk L a (a.above.getD j 0) = true) := by
                    intro h0 j hj
                    rcases Nat.lt_or_ge j q with h | h
                    · exact HQ.out j h
                    · rw [show j = q by omega]; exact h0
                  have HBd : RowKit.Hid (upOk L a (a.above.getD q 0) = false → a.above.all (upOk L a) = false) := by
                    intro h
                    rw [Bool.eq_false_iff]
                    intro g
                    rw [List.all_eq_true] at g
                    have hm : a.above.getD q 0 ∈ a.above := by
                      rw [List.getD_eq_getElem?_getD, List.getElem?_eq_getElem (by rw [HNt.out]; exact hqn)]
                      exact List.getElem_mem _
                    rw [g _ hm] at h
                    cases h
                  obtain ⟨x, hx⟩ : ∃ x, a.above.getD q 0 = x := ⟨_, rfl⟩
                  rw [hx] at d0 HQ2 HBd
                  have cG := refGet_any _ L x wr (HAl.out wr HBq.out) (by have := HN.out; omega)
                  obtain ⟨y, hy⟩ : ∃ y, (getA L x).getD au0 = y := ⟨_, rfl⟩
                  obtain ⟨is, his⟩ : ∃ b, (getA L x).isSome = b := ⟨_, rfl⟩
                  rw [hy, his] at cG
                  unfold AV at cG
                  have CG := Lib.hid cG
                  have hup : upOk L a x = (is && decide (y.kind = a.kind)) := by
                    unfold upOk
                    cases e : getA L x with
                    | none => rw [e] at his; rw [← his]; rfl
                    | some b => rw [e] at his hy; rw [← his, ← hy]; rfl
                  have HUp := Lib.hid hup
                  clear he2 hcp2 hx cG hy his hup
                  go_wp2_with fail
                  refine CG.out.mono ?_
                  rintro e w5 ⟨s5, t5, rfl, han, hb5⟩
                  obtain ⟨sa5, sc5, hs5, -, -⟩ := han.1.length
                  obtain ⟨ta5, tc5, ht5, -⟩ := han.2.length
                  obtain ⟨ns5, hns5⟩ : ∃ n, y.see.length = n := ⟨_, rfl⟩
                  obtain ⟨nt5, hnt5⟩ : ∃ n, y.above.length = n := ⟨_, rfl⟩
                  rw [hns5] at hs5
                  rw [hnt5] at ht5
                  subst hs5 ht5
                  have B5 := Lib.hid (HBq.out.trans (hb5.mono HBq.out.size))
                  have hN5 := heap_alloc_new w5 (.cells #[.int .i64 y.id, .int .i64 y.kind, .string (S y.heading), .slice sa5 ns5 sc5, .slice ta5 nt5 tc5] 31)
                  have bx5 := (Below.refl w5.heap.size w5).alloc (Nat.le_refl _) (.cells #[.int .i64 y.id, .int .i64 y.kind, .string (S y.heading), .slice sa5 ns5 sc5, .slice ta5 nt5 tc5] 31)
                  clear han hns5 hnt5 hb5 CG d0
                  go_upto_region 30 with fail
                  obtain ⟨V5, hV5⟩ : ∃ W, w5.alloc (.cells #[.int .i64 y.id, .int .i64 y.kind, .string (S y.heading), .slice sa5 ns5 sc5, .slice ta5 nt5 tc5] 31) = W := ⟨_, rfl⟩
                  rw [hV5] at hN5 bx5 ⊢
                  obtain ⟨bn, hbn⟩ : ∃ b, w5.heap.size = b := ⟨_, rfl⟩
                  have BV5 := Lib.hid (B5.out.trans (bx5.mono B5.out.size))
                  rw [hbn] at hN5 ⊢
                  obtain ⟨⟨y0, y1, y2, y3, y4⟩, -⟩ := acells hN5
                  obtain ⟨-, k1, -, -, -, -⟩ := HRd.out V5 BV5.out
                  obtain ⟨ub, hub⟩ : ∃ b, upOk L a x = b := ⟨_, rfl⟩
                  rw [hub] at HQ2 HBd HUp
                  obtain ⟨yk, hyk⟩ : ∃ z, y.kind = z := ⟨_, rfl⟩
                  obtain ⟨ak, hak⟩ : ∃ z, a.kind = z := ⟨_, rfl⟩
                  rw [hyk] at y1 HUp
                  rw [hak] at k1 HUp
                  clear hV5 hbn bx5 hN5 hub hyk hak
                  go_cut [117] from 106 to 117 (fun r wx => r = .bool (!ub) ∧ Below V5.heap.size V5 wx)
                  case first =>
                    clear HQ HQ2 HBd
                    cases is with
                    | false =>
                      have hb : ub = false := HUp.out
                      subst hb
                      clear HUp
                      go_region
                      go_wp2_with fail
                      go_meet
                      exact ⟨by first | rfl | simp_all, (Below.refl _ _).drew⟩
                    | true =>
                      by_cases hyk : yk = ak
                      · have hb : ub = true := by
                          have h := HUp.out
                          rw [decide_eq_true hyk] at h
                          exact h
                        subst hb
                        have u1 : (yk == ak) = true := by simpa using hyk
                        have u2 : (yk != ak) = false := by simpa using hyk
                        clear HUp hyk
                        go_region
                        go_wp2_with fail
                        go_meet
                        exact ⟨by first | rfl | simp_all, (Below.refl _ _).drew⟩
                      · have hb : ub = false := by
                          have h := HUp.out
                          rw [decide_eq_false hyk] at h
                          exact h
                        subst hb
                        have u1 : (yk == ak) = false := by simpa using hyk
                        have u2 : (yk != ak) = true := by simpa using hyk
                        clear HUp hyk
                        go_region
                        go_wp2_with fail
                        go_meet
                        exact ⟨by first | rfl | simp_all, (Below.refl _ _).drew⟩
                  case rest =>
                    obtain ⟨rfl, hwx⟩ := hcut
                    have HBx := Lib.hid (BV5.out.trans (hwx.mono BV5.out.size))
                    clear hwx y0 y1 y2 y3 y4 k1
                    cases ub with
                    | false =>
                      have hm := HErr.out 9 (by rw [HAe3.out, if_pos (HBd.out (by simp))]) (by decide)
                      subst hm
                      have hno := HBx.out
                      clear HErr HJ2 HAe3 HQ2 HBd HQ HUp HR3' HR4' HR5'
                      go_wp2
                      first | exact ⟨rfl, hno⟩ | (go_ret; exact ⟨rfl, hno⟩)
                    | true =>
                      have HQ3 := Lib.hid (HQ2.out (by simp))
                      clear HQ2 HBd HQ HUp
                      go_wp2
                      go_roundw
                      case rel => exact ⟨q + 1, by go_num, by omega, HQ3.out, HBx⟩
                      case measure => simp [intOf]; omega
                · have hall : a.above.all (upOk L a) = true := by
                    rw [List.all_eq_true]
                    intro x hx
                    obtain ⟨j, hj, rfl⟩ := List.mem_iff_getElem.1 hx
                    have := HQ.out j (by rw [HNt.out] at hj; omega)
                    rwa [List.getD_eq_getElem?_getD, List.getElem?_eq_getElem hj] at this
                  have HJ3 := Lib.hid (HJ2.out (by rw [HAe3.out, if_neg (by rw [hall]; decide)]))
                  have t6 : decide ((q : Int) < (nt : Int)) = false := decide_eq_false (by omega)
                  clear hall HJ2 HAe3 HQ HErr
                  go_wp2
                  go_roundw
                  case rel => exact ⟨p + 1, by go_num, by omega, HJ3.out, HBq⟩
                  case measure => simp [intOf]; omega
        · have hpe : n = p := by omega
          subst hpe
          have hz := firstI_zero (L.map (abvE L)) (fun j hj => by
            rw [List.length_map] at hj
            rw [mapA_getD _ _ j hj]
            exact HJ.out j (by rw [HN.out] at hj; exact hj))
          have HR4'' := Lib.hid (HR4'.out hz)
          have HR5'' := Lib.hid (HR5'.out hz)
          clear hz HR3' HR4' HR5' HJ
          go_wp2
          go_loopw [11] (fun v11 ws => ∃ i : Nat, v11 = .int .i64 (i : Int) ∧ i ≤ n ∧ RowKit.Hid (∀ j, j < i → (L.getD j au0).id ∉ aboveA L (L.getD j au0).id) ∧ RowKit.Hid (Below w.heap.size w ws)) (fun v11 _ => n - (intOf v11).toNat)
          case atStart => exact ⟨0, rfl, Nat.zero_le _, (fun j hj => by omega), HB3⟩
          case round =>
            obtain ⟨i, rfl, hi, HJ, HB4⟩ := hrel
            by_cases hin : i < n
            · have i1 : (0 : Int) ≤ (i : Int) := by omega
              have i2 : (i : Int) < (n : Int) := by omega
              have hil : i < L.length := by rw [HN.out]; exact hin
              have hmem := mem_getDA L i hil
              obtain ⟨g, o, cap, s, t, he, hg, hrd⟩ := HV.out.read i hil
              obtain ⟨rfl, -, hcp⟩ := Value.slice.inj he
              subst hcp
              have HAny : RowKit.Hid ((L.getD i au0).id ∈ aboveA L (L.getD i au0).id → (L.any fun a => decide (a.id ∈ aboveA L a.id)) = true) := fun h => List.any_eq_true.2 ⟨_, hmem, decide_eq_true h⟩
              have HJ2 : RowKit.Hid ((L.getD i au0).id ∉ aboveA L (L.getD i au0).id → ∀ j, j < i + 1 → (L.getD j au0).id ∉ aboveA L (L.getD j au0).id) := by
                intro h0 j hj
                rcases Nat.lt_or_ge j i with h | h
                · exact HJ.out j h
                · rw [show j = i by omega]; exact h0
              obtain ⟨ai, hai⟩ : ∃ x, (L.getD i au0).id = x := ⟨_, rfl⟩
              rw [hai] at hrd HAny HJ2
              have HCi : RowKit.Hid (∀ W, Below wr.heap.size wr W → W.cell? ⟨g, o + i * 5, none⟩ = some (.int .i64 ai)) := fun W hW => (hrd W (HB4.out.trans (hW.mono HB4.out.size))).1
              have cB := Lib.hid (fun (W : World) (hW : Below wr.heap.size wr W) => refAbove13_any _ L ai W (HAl.out W (HB4.out.trans (hW.mono HB4.out.size))) (by rw [HN.out]; omega) (fun a ha => (HBn.out.2 a ha).2.1))
              have hbl : (aboveA L ai).length ≤ 1000000 := by
                have h1 := iter_len L ai 100 (fun a ha => (HBn.out.2 a ha).2.1) (L.length + 1)
                have h2 : 100 * L.length ≤ 100 * 64 := Nat.mul_le_mul_left _ HBn.out.1
                have h3 : (L.length + 1) * (100 * L.length) ≤ 65 * (100 * 64) := Nat.mul_le_mul (by have := HBn.out.1; omega) h2
                unfold aboveA
                omega
              obtain ⟨b1, hb1⟩ : ∃ b, decide (ai ∈ aboveA L ai) = b := ⟨_, rfl⟩
              have HB1 := Lib.hid hb1
              obtain ⟨BB, hBB⟩ : ∃ l, aboveA L ai = l := ⟨_, rfl⟩
              rw [hBB] at cB hbl hb1 HAny HJ2 HB1
              have cI : RowKit.Hid (∀ v W, IL v BB W → Calls Tryz.prog 32 #[v, .int .i64 ai] W fun e w' => e = .returned (.bool b1) ∧ w' = W) := by
                intro v W hil2
                have h := refHas_any v BB ai W hil2 hbl
                rw [hb1] at h
                exact h
              clear he hrd hmem hai hb1 hBB hbl hil HJ
              go_upto_region 35 with fail
              go_cut [136] from 124 to 136 (fun r wx => r = .bool b1 ∧ Below wr.heap.size wr wx)
              case first =>
                apply wp_region_inv (V := [.eq (.slice (some ⟨g, o, none⟩) n vc), .eq (.slice (some ⟨g, o, none⟩) n vc), .eq (.int .i64 (i : Int)), .eq (.pointer (some ⟨g, o + i * 5, none⟩)), .eq (.pointer (some ⟨g, o + i * 5, none⟩)), .eq (.int .i64 ai), .il13k BB, .eq (.slice (some ⟨g, o, none⟩) n vc), .eq (.int .i64 (i : Int)), .eq (.pointer (some ⟨g, o + i * 5, none⟩)), .eq (.pointer (some ⟨g, o + i * 5, none⟩)), .eq (.int .i64 ai), .eq (.bool b1)])
                case hm => kernel_rfl
                case hd => kernel_rfl
                case hb => kernel_rfl
                case hA =>
                  intro vs
                  simp only [puts, Act.put, List.setIfInBounds_toArray, List.set_cons_zero, List.set_cons_succ]
                  exact rfl
                case hob =>
                  refine Obs.cons _ _ _ _ _ _ ?o0 (Obs.cons _ _ _ _ _ _ ?o1 (Obs.cons _ _ _ _ _ _ ?o2 (Obs.cons _ _ _ _ _ _ ?o3 (Obs.cons _ _ _ _ _ _ ?o4 (Obs.cons _ _ _ _ _ _ ?o5 (Obs.cons _ _ _ _ _ _ ?o6 (Obs.cons _ _ _ _ _ _ ?o7 (Obs.cons _ _ _ _ _ _ ?o8 (Obs.cons _ _ _ _ _ _ ?o9 (Obs.cons _ _ _ _ _ _ ?o10 (Obs.cons _ _ _ _ _ _ ?o11 (Obs.cons _ _ _ _ _ _ ?o12 (Obs.nil _ _ _ _ _ _)))))))))))))
                  case o0 =>
                    intro vs W hw hd K hK
                    go_simp
                    exact hK.out _ _ rfl (Below.refl _ _)
                  case o1 =>
                    intro vs W hw hd K hK
                    go_simp
                    exact hK.out _ _ rfl (Below.refl _ _)
                  case o2 =>
                    intro vs W hw hd K hK
                    go_simp
                    exact hK.out _ _ rfl (Below.refl _ _)
                  case o3 =>
                    intro vs W hw hd K hK
                    have h1 : vs 1 = .slice (some ⟨g, o, none⟩) n vc := hd 1 (by kernel_rfl)
                    have h2 : vs 2 = .int .i64 (i : Int) := hd 2 (by kernel_rfl)
                    simp only [Nat.reduceAdd, h1, h2] at hK ⊢
                    go_simp
                    exact hK.out _ _ rfl (Below.refl _ _)
                  case o4 =>
                    intro vs W hw hd K hK
                    have h3 : vs 3 = .pointer (some ⟨g, o + i * 5, none⟩) := hd 3 (by kernel_rfl)
                    simp only [Nat.reduceAdd, h3] at hK ⊢
                    go_simp
                    exact hK.out _ _ rfl (Below.refl _ _)
                  case o5 =>
                    intro vs W hw hd K hK
                    have h4 : vs 4 = .pointer (some ⟨g, o + i * 5, none⟩) := hd 4 (by kernel_rfl)
                    have c0 := HCi.out W hw
                    simp only [Nat.reduceAdd, h4] at hK ⊢
                    go_simp
                    exact hK.out _ _ rfl (Below.refl _ _)
                  case o6 =>
                    intro vs W hw hd K hK
                    have h0 : vs 0 = .slice (some ⟨g, o, none⟩) n vc := hd 0 (by kernel_rfl)
                    have h5 : vs 5 = .int .i64 ai := hd 5 (by kernel_rfl)
                    simp only [Nat.reduceAdd, h0, h5] at hK ⊢
                    go_simp
                    refine (cB.out W hw).mono ?_
                    rintro e W' ⟨v', rfl, hil, hb'⟩
                    exact hK.out _ _ hil hb'
                  case o7 =>
                    intro vs W hw hd K hK
                    go_simp
                    exact hK.out _ _ rfl (Below.refl _ _)
                  case o8 =>
                    intro vs W hw hd K hK
                    go_simp
                    exact hK.out _ _ rfl (Below.refl _ _)
                  case o9 =>
                    intro vs W hw hd K hK
                    have h7 : vs 7 = .slice (some ⟨g, o, none⟩) n vc := hd 7 (by kernel_rfl)
                    have h8 : vs 8 = .int .i64 (i : Int) := hd 8 (by kernel_rfl)
                    simp only [Nat.reduceAdd, h7, h8] at hK ⊢
                    go_simp
                    exact hK.out _ _ rfl (Below.refl _ _)
                  case o10 =>
                    intro vs W hw hd K hK
                    have h9 : vs 9 = .pointer (some ⟨g, o + i * 5, none⟩) := hd 9 (by kernel_rfl)
                    simp only [Nat.reduceAdd, h9] at hK ⊢
                    go_simp
                    exact hK.out _ _ rfl (Below.refl _ _)
                  case o11 =>
                    intro vs W hw hd K hK
                    have h10 : vs 10 = .pointer (some ⟨g, o + i * 5, none⟩) := hd 10 (by kernel_rfl)
                    have c0 := HCi.out W hw
                    simp only [Nat.reduceAdd, h10] at hK ⊢
                    go_simp
                    exact hK.out _ _ rfl (Below.refl _ _)
                  case o12 =>
                    intro vs W hw hd K hK
                    have h11 : vs 11 = .int .i64 ai := hd 11 (by kernel_rfl)
                    have h6 : IL (vs 6) BB W := hd 6 (by kernel_rfl)
                    simp only [Nat.reduceAdd, h11] at hK ⊢
                    go_simp
                    refine (cI.out (vs 6) W h6).mono ?_
                    rintro e W' ⟨rfl, hW'⟩
                    rw [hW']
                    exact hK.out _ _ rfl (Below.refl _ _)
                case hfin =>
                  intro vs W hw hd
                  have h12 : vs 12 = .bool b1 := hd 12 (by decide)
                  simp only [Nat.reduceAdd, h12]
                  go_wp2_with fail
                  go_meet
                  exact ⟨rfl, hw⟩
              case rest =>
                obtain ⟨rfl, hwx⟩ := hcut
                have HBx := Lib.hid (HB4.out.trans (hwx.mono HB4.out.size))
                clear hwx cB cI HCi
                cases b1 with
                | true =>
                  have hm := HR4''.out (HAny.out (of_decide_eq_true HB1.out))
                  subst hm
                  have hno := HBx.out
                  clear HR4'' HR5'' HAny HJ2
                  go_wp2
                  first | exact ⟨rfl, hno⟩ | (go_ret; exact ⟨rfl, hno⟩)
                | false =>
                  have HJ3 := Lib.hid (HJ2.out (of_decide_eq_false HB1.out))
                  clear HAny HJ2
                  go_wp2
                  go_roundw
                  case rel => exact ⟨i + 1, by go_num, by omega, HJ3.out, HBx⟩
                  case measure => simp [intOf]; omega
            · have hni : n = i := by omega
              subst hni
              have hm := HR5''.out (by
                rw [Bool.eq_false_iff]
                intro h
                obtain ⟨b, hb, hb2⟩ := List.any_eq_true.1 h
                obtain ⟨j, hj, rfl⟩ := List.mem_iff_getElem.1 hb
                have h3 := HJ.out j (by rw [HN.out] at hj; exact hj)
                rw [getD_at13 L j hj] at h3
                exact h3 (of_decide_eq_true hb2))
              subst hm
              have hno := HB4.out
              clear HR4'' HR5'' HJ
              go_wp2
              first | exact ⟨rfl, hno⟩ | (go_ret; exact ⟨rfl, hno⟩)
end

end Go.Proofs.YtmcolapcmjdoeaaGreatDoor

/- Merged: R13E, R13G, R13H. -/
import Derived.Test.YtmcolapcmjdoeaaGreatDoorQ06
import Derived.Test.YtmcolapcmjdoeaaGreatDoorQ19
namespace Go.Proofs.YtmcolapcmjdoeaaGreatDoor

section
open Go.RowKit Go.PlainAid
theorem insI_len (n : Int) : ∀ b : List Int, (insI b n).length = b.length + 1
  | [] => rfl
  | y :: r => by
    rw [insI]
    split
    · rfl
    · rw [List.length_cons, insI_len n r, List.length_cons]
theorem putI_len (l : List Int) (n : Int) : (putI l n).length ≤ l.length + 1 := by
  unfold putI
  split
  · omega
  · rw [insI_len]
    exact Nat.le_refl _
theorem puts_len : ∀ (ns l : List Int), (ns.foldl putI l).length ≤ l.length + ns.length
  | [], l => by simp
  | n :: r, l => by
    have h1 := puts_len r (putI l n)
    have h2 := putI_len l n
    rw [List.foldl_cons, List.length_cons]
    omega
theorem step_len (id : Int) (out : List Int) (a : Au) (m : Nat) (h : a.above.length ≤ m) : (stepA id out a).length ≤ out.length + m := by
  unfold stepA
  split
  · omega
  · have := puts_len a.above out
    omega
theorem foldA_len (id : Int) (m : Nat) : ∀ (l : List Au) (out : List Int), (∀ a ∈ l, a.above.length ≤ m) → (l.foldl (stepA id) out).length ≤ out.length + m * l.length
  | [], out, _ => by simp
  | a :: r, out, h => by
    have h1 := foldA_len id m r (stepA id out a) (fun b hb => h b (by simp [hb]))
    have h2 := step_len id out a m (h a (by simp))
    rw [List.foldl_cons, List.length_cons, Nat.mul_add]
    omega
theorem iter_len (l : List Au) (id : Int) (m : Nat) (h : ∀ a ∈ l, a.above.length ≤ m) : ∀ k, (iterA l id k).length ≤ k * (m * l.length)
  | 0 => by simp [iterA]
  | k + 1 => by
    have h1 := foldA_len id m l (iterA l id k) h
    have h2 := iter_len l id m h k
    rw [iterA, round_fold, Nat.add_mul]
    omega
theorem mid_len (l : List Au) (id : Int) (m n : Nat) (h : ∀ a ∈ l, a.above.length ≤ m) (hn : l.length = n) (hn2 : n ≤ 64) (hm : m ≤ 100) (r i : Nat) (hr : r ≤ n + 1) :
    (((l.take i).foldl (stepA id) (iterA l id r))).length ≤ 500000 := by
  have h1 := foldA_len id m (l.take i) (iterA l id r) (fun a ha => h a (List.mem_of_mem_take ha))
  have h2 := iter_len l id m h r
  have h3 : (l.take i).length ≤ 64 := by rw [List.length_take]; omega
  have h4 : m * (l.take i).length ≤ 100 * 64 := Nat.mul_le_mul hm h3
  have h5 : m * l.length ≤ 100 * 64 := Nat.mul_le_mul hm (by omega)
  have h6 : r * (m * l.length) ≤ 65 * (100 * 64) := Nat.mul_le_mul (by omega) h5
  omega
theorem take_snocA (L : List Au) (k : Nat) (h : k < L.length) : L.take (k + 1) = L.take k ++ [L.getD k au0] := by
  rw [List.take_succ_eq_append_getElem h, List.getD_eq_getElem?_getD, List.getElem?_eq_getElem h]
  rfl
theorem fold_snoc (id : Int) (L : List Au) (k : Nat) (h : k < L.length) (out : List Int) : (L.take (k + 1)).foldl (stepA id) out = stepA id ((L.take k).foldl (stepA id) out) (L.getD k au0) := by
  rw [take_snocA L k h, List.foldl_append]
  rfl
theorem puts_snoc (l : List Int) (k : Nat) (h : k < l.length) (out : List Int) : (l.take (k + 1)).foldl putI out = putI ((l.take k).foldl putI out) (l.getD k 0) := by
  rw [take_snocI l k h, List.foldl_append]
  rfl
theorem IL.length {v : Value} {l : List Int} {w : World} (h : IL v l w) : ∃ a cap, v = .slice a l.length cap ∧ l.length ≤ cap := by
  obtain ⟨a, cap, h1, h2, _⟩ := h
  exact ⟨a, cap, h1, h2⟩
theorem mem_getDA (L : List Au) (k : Nat) (h : k < L.length) : L.getD k au0 ∈ L := by
  rw [List.getD_eq_getElem?_getD, List.getElem?_eq_getElem h]
  exact List.getElem_mem _
/-- What is read of an element of a slice of authorities, in any later world. -/
theorem AL.read {v : Value} {L : List Au} {w : World} (h : AL v L w) (k : Nat) (hk : k < L.length) : ∃ g o cap s t, v = .slice (some ⟨g, o, none⟩) L.length cap ∧ g < w.heap.size ∧
    ∀ W, Below w.heap.size w W → W.cell? ⟨g, o + k * 5, none⟩ = some (.int .i64 (L.getD k au0).id) ∧ W.cell? ⟨g, o + k * 5 + 1, none⟩ = some (.int .i64 (L.getD k au0).kind) ∧ W.cell? ⟨g, o + k * 5 + 2, none⟩ = some (.string (S (L.getD k au0).heading)) ∧
      W.cell? ⟨g, o + k * 5 + 3, none⟩ = some s ∧ W.cell? ⟨g, o + k * 5 + 4, none⟩ = some t ∧ AN (L.getD k au0) s t W := by
  obtain ⟨g, o, cap, s, t, hv, hg, c0, c1, c2, c3, c4, hq⟩ := h.at k hk
  exact ⟨g, o, cap, s, t, hv, hg, fun W hW => ⟨(hW.cell (p := ⟨g, o + k * 5, none⟩) hg).trans c0, (hW.cell (p := ⟨g, o + k * 5 + 1, none⟩) hg).trans c1, (hW.cell (p := ⟨g, o + k * 5 + 2, none⟩) hg).trans c2,
    (hW.cell (p := ⟨g, o + k * 5 + 3, none⟩) hg).trans c3, (hW.cell (p := ⟨g, o + k * 5 + 4, none⟩) hg).trans c4, hq.after hW⟩⟩
set_option maxHeartbeats 16000000 in
set_option maxRecDepth 100000 in
theorem refAbove13_any (v : Value) (L : List Au) (id : Int) (w : World) (hv : AL v L w) (hz : L.length ≤ 64) (hm : ∀ a ∈ L, a.above.length ≤ 100) :
    Calls Tryz.prog 33 #[v, .int .i64 id] w fun e w' => ∃ v', e = .returned v' ∧ IL v' (aboveA L id) w' ∧ Below w.heap.size w w' := by
  obtain ⟨Q, hQ⟩ : ∃ Q, (fun (e : Ending) (w' : World) => ∃ v', e = .returned v' ∧ IL v' (aboveA L id) w' ∧ Below w.heap.size w w') = Q := ⟨_, rfl⟩
  rw [hQ]
  have HQ : RowKit.Hid (∀ v' W, IL v' (aboveA L id) W → Below w.heap.size w W → Q (.returned v') W) := by rw [← hQ]; exact fun v W h k => ⟨v, rfl, h, k⟩
  clear hQ
  have HV := Lib.hid hv
  have HM := Lib.hid hm
  obtain ⟨va, vc, rfl, hc1, hc2⟩ := hv.length
  obtain ⟨n, hn⟩ : ∃ n, L.length = n := ⟨_, rfl⟩
  have HN := Lib.hid hn
  have HLen := Lib.hid (fun r i (hr : r ≤ n + 1) => mid_len L id 100 n hm hn (by omega) (by decide) r i hr)
  unfold aboveA at HQ
  rw [hn] at HV hc1 hz HQ ⊢
  have HI0 := Lib.hid (IL.nil w)
  clear hn hm hv
  go_enter Tryz.func33, Tryz.ntmps33
  go_wp2
  go_loopw [5, 6] (fun v5 v6 wr => ∃ r : Nat, v6 = .int .i64 (r : Int) ∧ r ≤ n + 1 ∧ RowKit.Hid (IL v5 (iterA L id r) wr) ∧ RowKit.Hid (Below w.heap.size w wr)) (fun _ v6 _ => n + 1 - (intOf v6).toNat)
  case atStart => exact ⟨0, rfl, Nat.zero_le _, HI0, Below.refl _ _⟩
  case round =>
    obtain ⟨r, rfl, hr, HI, HB⟩ := hrel
    clear HI0
    by_cases hrn : r ≤ n
    · have t1 : decide ((r : Int) ≤ (n : Int)) = true := decide_eq_true (by omega)
      have t1n : decide (r ≤ n) = true := decide_eq_true hrn
      have HI1 : RowKit.Hid (IL u5 ((L.take 0).foldl (stepA id) (iterA L id r)) wr) := HI
      have HB1 := HB
      go_wp2
      go_loopw [5, 7] (fun v5 v7 ws => ∃ i : Nat, v7 = .int .i64 (i : Int) ∧ i ≤ n ∧ RowKit.Hid (IL v5 ((L.take i).foldl (stepA id) (iterA L id r)) ws) ∧ RowKit.Hid (Below w.heap.size w ws)) (fun _ v7 _ => n - (intOf v7).toNat)
      case atStart => exact ⟨0, rfl, Nat.zero_le _, HI1, HB1⟩
      case round =>
        obtain ⟨i, rfl, hi, HJ, HC⟩ := hrel
        clear HI1 HB1
        by_cases hin : i < n
        · have i1 : (0 : Int) ≤ (i : Int) := by omega
          have i2 : (i : Int) < (n : Int) := by omega
          obtain ⟨g, o, cap, s, t, he, hg, hrd⟩ := HV.out.read i (by rw [HN.out]; exact hin)
          obtain ⟨rfl, -, hcp⟩ := Value.slice.inj he
          subst hcp
          have HRd := Lib.hid hrd
          have hsn := fold_snoc id L i (by rw [HN.out]; exact hin) (iterA L id r)
          have hml := HLen.out r i (by omega)
          have hml2 := HLen.out r (i + 1) (by omega)
          have ham := HM.out _ (mem_getDA L i (by rw [HN.out]; exact hin))
          rw [hsn] at hml2
          obtain ⟨a, ha⟩ : ∃ a, L.getD i au0 = a := ⟨_, rfl⟩
          rw [ha] at HRd hsn ham hml2
          obtain ⟨M, hM⟩ : ∃ M, (L.take i).foldl (stepA id) (iterA L id r) = M := ⟨_, rfl⟩
          rw [hM] at HJ hsn hml hml2
          have HSn := Lib.hid hsn
          obtain ⟨c0, -, -, -, -, -⟩ := HRd.out wr HC.out
          have cH := Lib.hid (refHas_any u5 M a.id wr HJ.out (by omega))
          obtain ⟨cd, hcd⟩ : ∃ c, decide (a.id ≠ id ∧ a.id ∉ M) = c := ⟨_, rfl⟩
          have HCd := Lib.hid hcd
          clear he ha hrd hsn hM hcd
          go_upto_region 8 with fail
          go_cut [5, 37] from 21 to 37 (fun v5 b wx => v5 = u5 ∧ b = .bool cd ∧ wx = wr)
          case first =>
            by_cases hid : a.id = id
            · have hc : cd = false := by
                rw [← HCd.out]
                exact decide_eq_false (fun h => h.1 hid)
              rw [hid] at c0
              subst hc
              clear cH HCd
              go_wp2_with fail
              go_meet
              exact ⟨rfl, rfl, rfl⟩
            · have t2 : (a.id == id) = false := by simpa using hid
              have t2m : (a.id != id) = true := by simpa using hid
              obtain ⟨hm, hhm⟩ : ∃ b, decide (a.id ∈ M) = b := ⟨_, rfl⟩
              have hc : cd = !hm := by
                rw [← HCd.out, ← hhm]
                by_cases h : a.id ∈ M <;> simp [hid, h]
              rw [hhm] at cH
              subst hc
              clear HCd hhm hid
              go_wp2_with fail
              refine cH.out.mono ?_
              rintro e w2 ⟨rfl, hw2⟩
              rw [hw2]
              clear hw2 w2
              go_wp2_with fail
              go_meet
              exact ⟨rfl, rfl, rfl⟩
          case rest =>
            obtain ⟨rfl, rfl, hwx⟩ := hcut
            rw [hwx]
            clear hwx cH
            cases cd with
            | true =>
              have HJ2 : RowKit.Hid (IL u5 ((L.take (i + 1)).foldl (stepA id) (iterA L id r)) wr) := by
                unfold RowKit.Hid
                rw [HSn.out]
                unfold stepA
                rw [if_pos (of_decide_eq_true HCd.out)]
                exact HJ.out
              clear HSn HCd HJ c0 hml2
              go_wp2
              go_roundw
              case rel => exact ⟨i + 1, by go_num, by omega, HJ2, HC⟩
              case measure => simp [intOf]; omega
            | false =>
              obtain ⟨q, hq⟩ : ∃ q, a.above.length = q := ⟨_, rfl⟩
              have hst : stepA id M a = a.above.foldl putI M := by
                unfold stepA
                rw [if_neg (of_decide_eq_false HCd.out)]
              have HQl := Lib.hid hq
              have hq100 : q ≤ 100 := by rw [← hq]; exact ham
              have HSt := Lib.hid hst
              obtain ⟨-, -, -, -, -, hAN⟩ := HRd.out wr HC.out
              obtain ⟨ta, tc, ht, htc⟩ := hAN.2.length
              rw [hq] at ht htc
              subst ht
              have HJ0 : RowKit.Hid (IL u5 ((a.above.take 0).foldl putI M) wr) := HJ
              have HC0 := HC
              have hpl := fun k => puts_len (a.above.take k) M
              have HPl := Lib.hid hpl
              clear hst hq hAN c0 HCd HJ hpl
              go_wp2
              go_loopw [5, 8] (fun v5 v8 wt => ∃ k : Nat, v8 = .int .i64 (k : Int) ∧ k ≤ q ∧ RowKit.Hid (IL v5 ((a.above.take k).foldl putI M) wt) ∧ RowKit.Hid (Below w.heap.size w wt)) (fun _ v8 _ => q - (intOf v8).toNat)
              case atStart => exact ⟨0, rfl, Nat.zero_le _, HJ0, HC0⟩
              case round =>
                obtain ⟨k, rfl, hk, HK, HD⟩ := hrel
                clear HJ0 HC0
                obtain ⟨-, -, -, -, c4, hAN⟩ := HRd.out wr HD.out
                by_cases hkq : k < q
                · have j1 : (0 : Int) ≤ (k : Int) := by omega
                  have j2 : (k : Int) < (q : Int) := by omega
                  obtain ⟨g2, o2, cap2, he, hg2, d0⟩ := hAN.2.at13 k (by rw [HQl.out]; exact hkq)
                  obtain ⟨rfl, -, hcp⟩ := Value.slice.inj he
                  have hps := puts_snoc a.above k (by rw [HQl.out]; exact hkq) M
                  have hle := HPl.out k
                  have hlk : (a.above.take k).length ≤ k := by rw [List.length_take]; omega
                  obtain ⟨x, hx⟩ : ∃ x, a.above.getD k 0 = x := ⟨_, rfl⟩
                  rw [hx] at d0 hps
                  have cP := Lib.hid (refPut_any u5 _ x wr HK.out (by have := HQl.out; omega))
                  have HPs := Lib.hid hps
                  clear he hcp hx hps hle hlk hAN
                  go_wp2_with fail
                  refine cP.out.mono ?_
                  rintro e w2 ⟨v', rfl, hi2, hb2⟩
                  rw [← HPs.out] at hi2
                  have HK2 := Lib.hid hi2
                  have HD2 := Lib.hid (HD.out.trans (hb2.mono HD.out.size))
                  clear hi2 hb2 cP c4 d0 HK
                  go_wp2
                  go_roundw
                  case rel => exact ⟨k + 1, by go_num, by omega, HK2, HD2⟩
                  case measure => simp [intOf]; omega
                · obtain rfl : k = q := by omega
                  have HJ2 : RowKit.Hid (IL u5 ((L.take (i + 1)).foldl (stepA id) (iterA L id r)) wr) := by
                    unfold RowKit.Hid
                    rw [HSn.out, HSt.out]
                    have h := HK.out
                    rw [show a.above.take k = a.above by rw [← HQl.out, List.take_length]] at h
                    exact h
                  clear HK hAN
                  go_wp2
                  go_roundw
                  case rel => exact ⟨i + 1, by go_num, by omega, HJ2, HD⟩
                  case measure => simp [intOf]; omega
        · obtain rfl : i = n := by omega
          have HI2 : RowKit.Hid (IL u5 (iterA L id (r + 1)) wr) := by
            unfold RowKit.Hid
            rw [iterA, round_fold]
            have h := HJ.out
            rw [show L.take i = L by rw [← HN.out, List.take_length]] at h
            exact h
          clear HJ
          go_wp2
          go_roundw
          case rel => exact ⟨r + 1, by go_num, by omega, HI2, HC⟩
          case measure => simp [intOf]; omega
    · obtain rfl : r = n + 1 := by omega
      have t1 : decide (((n + 1 : Nat) : Int) ≤ (n : Int)) = false := decide_eq_false (by omega)
      have t1n : decide (n + 1 ≤ n) = false := decide_eq_false (by omega)
      have hno := HQ.out _ wr HI.out HB.out
      go_wp2
      first | exact hno | (go_ret; exact hno)
end

section
open Go.RowKit Go.PlainAid
/-- append of one text that has just been laid to a row of one's own, however long. -/
theorem append_sr13 {ops : Array Oper} {rest : List Oper} {o : Oper} {a : Act} {Q : Exit → Act → World → Prop} (w : World) (hgd : o.guard = none) (s x : Operand)
    (ho : o.op = .call { callee := .builtin .append, args := #[s, x], argTypes := #[28, 28] })
    (B : Nat) (v : Value) (L : List (List UInt8)) (y : List UInt8) (hs : a.eval s = v) (h : SR B v L w) (hx : a.eval x = .slice (some ⟨w.heap.size, 0, none⟩) 1 1) (hz : (L.length + 1) * 16 ≤ 140737488355328) (hB : B ≤ w.heap.size)
    (N : Nat) (W1 : World) (hNB : N ≤ B) (hb : Below N W1 w)
    (hk : ∀ v' w', SR B v' (L ++ [y]) w' → Below N W1 w' → B ≤ w'.heap.size → wpList Tryz.prog ops Q rest (a.put o.dst v') w') : wpList Tryz.prog ops Q (o :: rest) a (w.alloc (.cells #[strB y] 9)) := by
  obtain ⟨i0, hi, hz0, hz1, hz2⟩ := info_string
  have hrow := h.row.alloc (.cells #[strB y] 9)
  refine wpList_append_own _ hgd s x 28 ho B 9 i0 (.string ⟨#[]⟩) 1 16 Tryz.underlying28 hi hz0 hz1 hz2 rfl (by decide) v L.length _ hs hrow ⟨w.heap.size, 0, none⟩ 1 1 [strB y] hx rfl (cells_one12 _ _ _) (by intro u hu; simp at hu; subst hu; rfl) (by unfold maxLen; omega) (by omega) (by simp; omega) ?_
  intro v2 w2 hown2 hg2 hn2
  refine hk v2 w2 ⟨by rw [List.length_append, List.map_append]; exact hown2, fun e => by have := (hn2.1 e).2; omega⟩ ?_ (Nat.le_trans (by simp; omega) hg2.size)
  exact (hb.alloc (by omega) _).grown hg2 (by simp; omega) (fun j hj => Nat.le_trans hNB (hrow.lt j hj).1)
set_option maxHeartbeats 8000000 in
theorem refHeadingsB_any (a : Au) (s t : Value) (w : World) (h : AN a s t w) (hz : a.see.length * 16 ≤ 140737488351232) :
    Calls Tryz.prog 29 #[AV a s t] w fun e w' => ∃ v, e = .returned v ∧ SR w.heap.size v (hdsX a) w' ∧ Below w.heap.size w w' := by
  obtain ⟨Q, hQ⟩ : ∃ Q, (fun (e : Ending) (w' : World) => ∃ v, e = .returned v ∧ SR w.heap.size v (hdsX a) w' ∧ Below w.heap.size w w') = Q := ⟨_, rfl⟩
  rw [hQ]
  obtain ⟨W0, hW0⟩ : ∃ W, w.alloc (.cells #[.int .i64 a.id, .int .i64 a.kind, .string (S a.heading), s, t] 31) = W := ⟨_, rfl⟩
  have b0 : Below w.heap.size w W0 := by rw [← hW0]; exact (Below.refl _ _).alloc (Nat.le_refl _) _
  have hR0 : W0.heap[w.heap.size]? = some (.cells #[.int .i64 a.id, .int .i64 a.kind, .string (S a.heading), s, t] 31 (0, 0)) := by rw [← hW0]; exact heap_alloc_new w _
  have hlt0 : w.heap.size < W0.heap.size := by rw [← hW0]; simp
  have HQ : RowKit.Hid (∀ v W, SR W0.heap.size v (hdsX a) W → Below W0.heap.size W0 W → Q (.returned v) W) := by
    rw [← hQ]
    exact fun v W h1 h2 => ⟨v, rfl, h1.mono13 (Nat.le_of_lt hlt0), b0.trans (h2.mono b0.size)⟩
  have HBox := Lib.hid (fun (W : World) (h : Below W0.heap.size W0 W) => acells ((h.block w.heap.size hlt0).trans hR0))
  have HS := Lib.hid (h.1.after b0)
  have HW0 := Lib.hid hW0
  obtain ⟨sa, sc, hs, hc1, hc2⟩ := h.1.length
  subst hs
  obtain ⟨n, hn⟩ : ∃ n, a.see.length = n := ⟨_, rfl⟩
  have HN := Lib.hid hn
  rw [hn] at HS hc1 hz HBox HW0 ⊢
  obtain ⟨W1, hW1⟩ : ∃ W, W0.alloc (.cells #[.string (S a.heading)] 9) = W := ⟨_, rfl⟩
  have HR1 : RowKit.Hid (SR W0.heap.size (.slice (some ⟨W0.heap.size, 0, none⟩) 1 1) [a.heading] W1) := by rw [← hW1]; exact SR.one13 W0 a.heading
  have HB1 : RowKit.Hid (Below W0.heap.size W0 W1) := by rw [← hW1]; exact (Below.refl _ _).alloc (Nat.le_refl _) _
  have HW1 := Lib.hid hW1
  clear hQ hW0 hR0 b0 hlt0 h hn hW1
  unfold AV
  obtain ⟨⟨x0, x1, x2, x3, x4⟩, -⟩ := HBox.out W0 (Below.refl _ _)
  go_enter Tryz.func29, Tryz.ntmps29
  go_upto_region 1 with fail
  rw [HW0.out]
  clear HW0
  go_upto_region 2 with fail
  rw [HW1.out]
  clear HW1 x0 x1 x2 x3 x4
  go_wp2
  go_loopw [3, 4] (fun v3 v4 wr => ∃ (k d g cp : Nat) (D : List (List UInt8)), v3 = .slice (some ⟨g, 0, none⟩) d cp ∧ v4 = .int .i64 (k : Int) ∧ k ≤ n ∧ D.length = d ∧ d = k + 1 ∧ RowKit.Hid (D = a.heading :: a.see.take k) ∧ RowKit.Hid (SR W0.heap.size (.slice (some ⟨g, 0, none⟩) d cp) D wr) ∧ RowKit.Hid (Below W0.heap.size W0 wr)) (fun _ v4 _ => n - (intOf v4).toNat)
  case atStart => exact ⟨0, 1, _, _, [a.heading], rfl, rfl, Nat.zero_le _, rfl, rfl, by rw [List.take_zero]; rfl, HR1, HB1⟩
  case round =>
    obtain ⟨k, d, g, cp, D, rfl, rfl, hk, hDd, hdk, HD, HR, HB⟩ := hrel
    clear HR1 HB1
    obtain ⟨⟨x0, x1, x2, x3, x4⟩, -⟩ := HBox.out wr HB.out
    by_cases hkn : k < n
    · have i1 : (0 : Int) ≤ (k : Int) := by omega
      have i2 : (k : Int) < (n : Int) := by omega
      obtain ⟨g2, o2, cap2, he, hg2, c0⟩ := (HS.out.after HB.out).at13 k (by rw [HN.out]; exact hkn)
      obtain ⟨rfl, -, hcp⟩ := Value.slice.inj he
      have hst := take_snoc13 a.see k (by rw [HN.out]; exact hkn)
      have HSt := Lib.hid hst
      obtain ⟨y, hy⟩ : ∃ y, a.see.getD k [] = y := ⟨_, rfl⟩
      rw [hy] at c0 HSt
      have hsz := HB.out.size
      clear he hcp hst hy
      go_wp2_with (at_builtin; go_loud (refine append_sr13 _ rfl _ _ rfl W0.heap.size (.slice (some ⟨g, 0, none⟩) d cp) D y rfl HR.out rfl (by omega) hsz W0.heap.size W0 (Nat.le_refl _) HB.out ?_))
      intro v2 w3 hr3 hb3
      (try intro _)
      obtain ⟨g3, cp3, rfl⟩ := sr_form hr3
      have hl3 : (D ++ [y]).length = d + 1 := by rw [List.length_append, hDd]; rfl
      have HL3 := Lib.hid hl3
      have HD2 : RowKit.Hid (D ++ [y] = a.heading :: a.see.take (k + 1)) := by
        unfold RowKit.Hid
        rw [HD.out, HSt.out]
        rfl
      rw [hl3] at hr3 ⊢
      have HR3 := Lib.hid hr3
      have HB3 := Lib.hid hb3
      clear hr3 hb3 hl3 x0 x1 x2 x3 x4 HSt HR HB HD
      go_wp2
      go_roundw
      case rel => exact ⟨k + 1, d + 1, g3, cp3, D ++ [y], by first | rfl | trivial, by go_num, by omega, HL3.out, by omega, HD2, HR3, HB3⟩
      case measure => simp [intOf]; omega
    · obtain rfl : k = n := by omega
      have hD := HD.out
      rw [List.take_of_length_le (by rw [HN.out]; exact Nat.le_refl _)] at hD
      have hfin := Lib.hid (HQ.out _ _ (by rw [show hdsX a = D from hD.symm]; exact HR.out) HB.out)
      clear hD HQ HR HB HD
      go_wp2
      first | exact hfin.out | (go_ret; exact hfin.out)
end

section
open Go.RowKit Go.PlainAid
/-- An authority of moderate size. -/
def smallO (a : Au) : Bool := decide ((hdsX a).length ≤ 12) && decide (a.above.length ≤ 8) && (hdsX a).all fun h => decide (h.length ≤ 260)
theorem smallA_eq (L : List Au) : smallA L = (decide (L.length ≤ 30) && L.all smallO) := rfl
theorem all_bad (p : Au → Bool) (L : List Au) (k : Nat) (hk : k < L.length) (h : p (L.getD k au0) = false) : L.all p = false := by
  rw [Bool.eq_false_iff]
  intro g
  rw [List.all_eq_true] at g
  rw [g _ (mem_getDA L k hk)] at h
  cases h
theorem all_good (p : Au → Bool) (L : List Au) (h : ∀ j, j < L.length → p (L.getD j au0) = true) : L.all p = true := by
  rw [List.all_eq_true]
  intro x hx
  obtain ⟨j, hj, rfl⟩ := List.mem_iff_getElem.1 hx
  have := h j hj
  rwa [getD_at13 L j hj] at this
theorem hall_bad (p : List UInt8 → Bool) (L : List (List UInt8)) (k : Nat) (hk : k < L.length) (h : p (L.getD k []) = false) : L.all p = false := by
  rw [Bool.eq_false_iff]
  intro g
  rw [List.all_eq_true] at g
  rw [g _ (by rw [List.getD_eq_getElem?_getD, List.getElem?_eq_getElem hk]; exact List.getElem_mem _)] at h
  cases h
theorem hall_good (p : List UInt8 → Bool) (L : List (List UInt8)) (h : ∀ j, j < L.length → p (L.getD j []) = true) : L.all p = true := by
  rw [List.all_eq_true]
  intro x hx
  obtain ⟨j, hj, rfl⟩ := List.mem_iff_getElem.1 hx
  have := h j hj
  rwa [List.getD_eq_getElem?_getD, List.getElem?_eq_getElem hj] at this
set_option maxHeartbeats 16000000 in
set_option maxRecDepth 100000 in
theorem refSmall13_any (v : Value) (L : List Au) (w : World) (hv : AL v L w) (hs : ∀ a ∈ L, a.see.length * 16 ≤ 140737488351232) (b : Bool) (hb : smallA L = b) :
    Calls Tryz.prog 8 #[v] w fun e w' => e = .returned (.bool b) ∧ Below w.heap.size w w' := by
  have HV := Lib.hid hv
  have HS := Lib.hid hs
  rw [smallA_eq] at hb
  obtain ⟨va, vc, rfl, hc1, hc2⟩ := hv.length
  obtain ⟨n, hn⟩ : ∃ n, L.length = n := ⟨_, rfl⟩
  have HN := Lib.hid hn
  rw [hn] at HV hc1 hb ⊢
  clear hn hv hs
  by_cases h30 : 30 < n
  · rw [decide_eq_false (by omega), Bool.false_and] at hb
    subst hb
    have t1 : decide ((30 : Int) < (n : Int)) = true := decide_eq_true (by omega)
    have t1n : decide (30 < n) = true := decide_eq_true h30
    clear h30
    go_enter Tryz.func8, Tryz.ntmps8
    go_wp2
    first | exact ⟨rfl, Below.refl _ _⟩ | (go_ret; exact ⟨rfl, Below.refl _ _⟩)
  rw [decide_eq_true (show n ≤ 30 by omega), Bool.true_and] at hb
  have t1 : decide ((30 : Int) < (n : Int)) = false := decide_eq_false (by omega)
  have t1n : decide (30 < n) = false := decide_eq_false h30
  have hn30 : n ≤ 30 := by omega
  have HBadA := Lib.hid (fun k (hk : k < n) h => (all_bad smallO L k (by rw [HN.out]; exact hk) h).symm.trans hb)
  have HGood := Lib.hid (fun h => (all_good smallO L h).symm.trans hb)
  rw [HN.out] at HGood
  clear h30 hb
  go_enter Tryz.func8, Tryz.ntmps8
  go_wp2
  go_loopw [3] (fun v3 wr => ∃ i : Nat, v3 = .int .i64 (i : Int) ∧ i ≤ n ∧ RowKit.Hid (∀ j, j < i → smallO (L.getD j au0) = true) ∧ RowKit.Hid (Below w.heap.size w wr)) (fun v3 _ => n - (intOf v3).toNat)
  case atStart => exact ⟨0, rfl, Nat.zero_le _, (fun j hj => by omega), Below.refl _ _⟩
  case round =>
    obtain ⟨i, rfl, hi, HJ, HB⟩ := hrel
    by_cases hin : i < n
    · have i1 : (0 : Int) ≤ (i : Int) := by omega
      have i2 : (i : Int) < (n : Int) := by omega
      have hmem := mem_getDA L i (by rw [HN.out]; exact hin)
      obtain ⟨g, o, cap, s, t, he, hg, hrd⟩ := HV.out.read i (by rw [HN.out]; exact hin)
      obtain ⟨rfl, -, hcp⟩ := Value.slice.inj he
      subst hcp
      have HRd := Lib.hid hrd
      have hsa := HS.out _ hmem
      have HBk := Lib.hid (HBadA.out i hin)
      have HJ2 : RowKit.Hid (smallO (L.getD i au0) = true → ∀ j, j < i + 1 → smallO (L.getD j au0) = true) := by
        intro h0 j hj
        rcases Nat.lt_or_ge j i with h | h
        · exact HJ.out j h
        · rw [show j = i by omega]; exact h0
      obtain ⟨a, ha⟩ : ∃ a, L.getD i au0 = a := ⟨_, rfl⟩
      rw [ha] at HRd hsa HBk HJ2
      obtain ⟨-, -, -, -, -, hAN⟩ := HRd.out wr HB.out
      obtain ⟨sa, sc, hs1, -, -⟩ := hAN.1.length
      obtain ⟨ta, tc, ht1, -⟩ := hAN.2.length
      obtain ⟨nt, hnt⟩ : ∃ n, a.above.length = n := ⟨_, rfl⟩
      rw [hnt] at ht1
      have cH := refHeadingsB_any a s t wr hAN hsa
      have HT := Lib.hid hnt
      subst hs1 ht1
      unfold AV at cH
      have CH := Lib.hid cH
      obtain ⟨c0, c1, c2, c3, c4, -⟩ := HRd.out wr HB.out
      clear he hrd hmem ha hAN hsa cH hnt
      go_wp2_with fail
      refine CH.out.mono ?_
      rintro e w1 ⟨vh, rfl, hr1, hb1⟩
      obtain ⟨gh, ch, rfl⟩ := sr_form hr1
      have HP := Lib.hid hr1.bl
      have B1 := Lib.hid (HB.out.trans (hb1.mono HB.out.size))
      have hso : smallO a = (decide ((hdsX a).length ≤ 12) && decide (nt ≤ 8) && (hdsX a).all fun h => decide (h.length ≤ 260)) := by unfold smallO; rw [HT.out]
      obtain ⟨q, hq⟩ : ∃ q, (hdsX a).length = q := ⟨_, rfl⟩
      have HQ := Lib.hid hq
      rw [hq] at HP hso ⊢
      have HSo := Lib.hid hso
      obtain ⟨-, -, -, -, c4, -⟩ := HRd.out w1 B1.out
      clear hr1 hb1 CH c0 c1 c2 c3 hq hso
      by_cases h12 : 12 < q
      · have hm := HBk.out (by rw [HSo.out, decide_eq_false (show ¬ q ≤ 12 by omega), Bool.false_and, Bool.false_and])
        subst hm
        have t2 : decide ((12 : Int) < (q : Int)) = true := decide_eq_true (by omega)
        have t2n : decide (12 < q) = true := decide_eq_true h12
        clear h12 HBk HJ2 HSo
        go_wp2
        first | exact ⟨rfl, B1.out⟩ | (go_ret; exact ⟨rfl, B1.out⟩)
      have t2 : decide ((12 : Int) < (q : Int)) = false := decide_eq_false (by omega)
      have t2n : decide (12 < q) = false := decide_eq_false h12
      by_cases h8 : 8 < nt
      · have hm := HBk.out (by rw [HSo.out, decide_eq_false (show ¬ nt ≤ 8 by omega), Bool.and_false, Bool.false_and])
        subst hm
        have t8 : decide ((8 : Int) < (nt : Int)) = true := decide_eq_true (by omega)
        have t8n : decide (8 < nt) = true := decide_eq_true h8
        clear h12 h8 HBk HJ2 HSo
        go_wp2
        first | exact ⟨rfl, B1.out⟩ | (go_ret; exact ⟨rfl, B1.out⟩)
      have t8 : decide ((8 : Int) < (nt : Int)) = false := decide_eq_false (by omega)
      have t8n : decide (8 < nt) = false := decide_eq_false h8
      have hso2 : smallO a = (hdsX a).all fun h => decide (h.length ≤ 260) := by
        rw [HSo.out, decide_eq_true (show q ≤ 12 by omega), decide_eq_true (show nt ≤ 8 by omega)]
        rfl
      have HSo2 := Lib.hid hso2
      have hq12 : q ≤ 12 := by omega
      clear hso2 HSo h12 h8
      go_wp2
      go_loopw [5] (fun v5 ws => ∃ k : Nat, v5 = .int .i64 (k : Int) ∧ k ≤ q ∧ RowKit.Hid (∀ j, j < k → ((hdsX a).getD j []).length ≤ 260) ∧ w1 = ws) (fun v5 _ => q - (intOf v5).toNat)
      case atStart => exact ⟨0, rfl, Nat.zero_le _, (fun j hj => by omega), rfl⟩
      case round =>
        obtain ⟨k, rfl, hk, HK, hws⟩ := hrel
        rw [← hws]
        clear hws
        by_cases hkq : k < q
        · have j1 : (0 : Int) ≤ (k : Int) := by omega
          have j2 : (k : Int) < (q : Int) := by omega
          obtain ⟨g2, o2, cap2, he, hg2, d0⟩ := HP.out.at13 k (by rw [HQ.out]; exact hkq)
          obtain ⟨ha2, -, hcp⟩ := Value.slice.inj he
          obtain ⟨rfl, rfl, -⟩ := Addr.mk.inj (Option.some.inj ha2)
          rw [Nat.zero_add] at d0
          have HK2 : RowKit.Hid (((hdsX a).getD k []).length ≤ 260 → ∀ j, j < k + 1 → ((hdsX a).getD j []).length ≤ 260) := by
            intro h0 j hj
            rcases Nat.lt_or_ge j k with h | h
            · exact HK.out j h
            · rw [show j = k by omega]; exact h0
          have HBh : RowKit.Hid (260 < ((hdsX a).getD k []).length → smallO a = false) := by
            intro h
            rw [HSo2.out]
            exact hall_bad _ _ k (by rw [HQ.out]; exact hkq) (decide_eq_false (by omega))
          have hxs := S_size ((hdsX a).getD k [])
          obtain ⟨x, hx⟩ : ∃ x, (hdsX a).getD k [] = x := ⟨_, rfl⟩
          rw [hx] at d0 HK2 HBh hxs
          obtain ⟨lx, hlx⟩ : ∃ n, x.length = n := ⟨_, rfl⟩
          rw [hlx] at HK2 HBh hxs
          clear he hcp hx hlx ha2
          generalize S x = sx at *
          by_cases h2 : 260 < lx
          · have hm := HBk.out (HBh.out h2)
            subst hm
            have u2 : decide ((260 : Int) < (lx : Int)) = true := decide_eq_true (by omega)
            have u2n : decide (260 < lx) = true := decide_eq_true h2
            clear h2 HBk HJ2 HK2 HBh HSo2
            go_wp2
            first | exact ⟨rfl, B1.out⟩ | (go_ret; exact ⟨rfl, B1.out⟩)
          · have u2 : decide ((260 : Int) < (lx : Int)) = false := decide_eq_false (by omega)
            have u2n : decide (260 < lx) = false := decide_eq_false h2
            have HK3 := Lib.hid (HK2.out (by omega))
            clear h2 HK2 HBh
            go_wp2
            go_roundw
            case rel => first | exact ⟨k + 1, by go_num, by omega, HK3.out, rfl⟩ | exact ⟨k + 1, by go_num, by omega, HK3.out, trivial⟩
            case measure => simp [intOf]; omega
        · obtain rfl : k = q := by omega
          have HJ3 := Lib.hid (HJ2.out (by
            rw [HSo2.out]
            exact hall_good _ _ (fun j hj => decide_eq_true (HK.out j (by rw [← HQ.out]; exact hj)))))
          clear HJ2 HBk HSo2 HK
          go_wp2
          go_roundw
          case rel => exact ⟨i + 1, by go_num, by omega, HJ3.out, B1.out⟩
          case measure => simp [intOf]; omega
    · obtain rfl : i = n := by omega
      have hm := HGood.out HJ.out
      subst hm
      clear HBadA HGood
      go_wp2
      first | exact ⟨rfl, HB.out⟩ | (go_ret; exact ⟨rfl, HB.out⟩)
end

end Go.Proofs.YtmcolapcmjdoeaaGreatDoor

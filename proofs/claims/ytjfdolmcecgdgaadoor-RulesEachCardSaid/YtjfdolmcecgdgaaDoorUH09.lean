/- Package rules: checkSubs. -/
import Derived.Test.YtjfdolmcecgdgaaDoorUG09
namespace Go.Proofs.YtjfdolmcecgdgaaDoor
open Go.RowKit Go.PlainAid

theorem UB.fr {bl b : Nat} {t : Rul} {W W' : World} (h : UB b t W) (hne : b ≠ bl) (hf : Fr bl W W') : UB b t W' := ⟨hf.keep _ _ h.bx hne (fun cs fr e => by cases e)⟩
theorem BM.fr {α : Type} {k : TypeId} {mk : α → Lit} {b n bl : Nat} {f : α → Bool} {W W' : World} (h : BM k mk b n f W) (hne : b ≠ bl) (hf : Fr bl W W') : BM k mk b n f W' := by
  obtain ⟨D, ⟨es, clock, hb, rest⟩, h2⟩ := h
  exact ⟨D, ⟨es, clock, hf.keep _ _ hb hne (fun cs fr e => by cases e), rest⟩, h2⟩
theorem BM.block {α : Type} {k : TypeId} {mk : α → Lit} {b n : Nat} {f : α → Bool} {W : World} (h : BM k mk b n f W) : ∃ es c, W.heap[b]? = some (.map es c) := by
  obtain ⟨D, ⟨es, clock, hb, _⟩, _⟩ := h
  exact ⟨es, clock, hb⟩
theorem UB.grown {b c : Nat} {t : Rul} {W W' : World} (h : UB b t W) {es : Array MapEntry} {k : Nat} (hc : W.heap[c]? = some (.map es k)) (hg : W.grownBy W' (some c)) : UB b t W' :=
  ⟨(hg.block b h.lt (fun e => by obtain rfl := Option.some.inj e; rw [h.bx] at hc; cases hc)).trans h.bx⟩
/-- What lies in memory while subfields are checked: the gathered problems, the rule in its box (br), the codes so far in a map (bq); what lay in W but was not this lies still. -/
structure CS (w0 : World) (B bl bi bf : Nat) (t : Rul) (f : Fld) (ix : Int) (br bq : Nat) (M : List Prb) (n : Nat) (g : UInt8 → Bool) (N : Nat) (W wr : World) : Prop where
  rp : RP w0 B bl bi bf f.tag ix M wr
  ub : UB br t wr
  mp : BM 5 mkC bq n g wr
  fr : ∀ b o, b < N → W.heap[b]? = some o → b ≠ bl → (∀ cs fr, o ≠ .cells cs 44 fr) → wr.heap[b]? = some o
  hN : N ≤ bq ∧ w0.heap.size ≤ bq ∧ br ≠ bl ∧ bq ≠ bl ∧ bq < wr.heap.size
theorem CS.after {w0 : World} {B bl bi bf : Nat} {t : Rul} {f : Fld} {ix : Int} {br bq : Nat} {M : List Prb} {n : Nat} {g : UInt8 → Bool} {N : Nat} {W wr w' : World} (h : CS w0 B bl bi bf t f ix br bq M n g N W wr) (hb : Below wr.heap.size wr w') :
    CS w0 B bl bi bf t f ix br bq M n g N W w' :=
  ⟨h.rp.after hb, h.ub.after hb, h.mp.after hb, fun b o h0 h1 h2 h3 => (hb.block b (Array.getElem?_eq_some_iff.1 (h.fr b o h0 h1 h2 h3)).1).trans (h.fr b o h0 h1 h2 h3), h.hN.1, h.hN.2.1, h.hN.2.2.1, h.hN.2.2.2.1, Nat.lt_of_lt_of_le h.hN.2.2.2.2 hb.size⟩
theorem CS.report {w0 : World} {B bl bi bf : Nat} {t : Rul} {f : Fld} {ix : Int} {br bq : Nat} {M M' : List Prb} {n : Nat} {g : UInt8 → Bool} {N : Nat} {W wr w' : World} (h : CS w0 B bl bi bf t f ix br bq M n g N W wr) (hr : RP w0 B bl bi bf f.tag ix M' w') (hf : Fr bl wr w') :
    CS w0 B bl bi bf t f ix br bq M' n g N W w' :=
  ⟨hr, h.ub.fr h.hN.2.2.1 hf, h.mp.fr h.hN.2.2.2.1 hf, fun b o h0 h1 h2 h3 => hf.keep b o (h.fr b o h0 h1 h2 h3) h2 h3, h.hN.1, h.hN.2.1, h.hN.2.2.1, h.hN.2.2.2.1, Nat.lt_of_lt_of_le h.hN.2.2.2.2 hf.size⟩
theorem CS.store {w0 : World} {B bl bi bf : Nat} {t : Rul} {f : Fld} {ix : Int} {br bq : Nat} {M : List Prb} {n : Nat} {g g' : UInt8 → Bool} {N : Nat} {W wr w' : World} (h : CS w0 B bl bi bf t f ix br bq M n g N W wr) (hb : BM 5 mkC bq (n + 1) g' w') (hg : wr.grownBy w' (some bq)) :
    CS w0 B bl bi bf t f ix br bq M (n + 1) g' N W w' := by
  obtain ⟨es, c, hm⟩ := h.mp.block
  exact ⟨h.rp.grown bq hm h.hN.2.1 hg, h.ub.grown hm hg, hb, fun b o h0 h1 h2 h3 => (hg.block b (Array.getElem?_eq_some_iff.1 (h.fr b o h0 h1 h2 h3)).1 (fun e => by obtain rfl := Option.some.inj e; have := h.hN.1; omega)).trans (h.fr b o h0 h1 h2 h3),
    h.hN.1, h.hN.2.1, h.hN.2.2.1, h.hN.2.2.2.1, Nat.lt_of_lt_of_le h.hN.2.2.2.2 hg.size⟩
theorem QL.at9 {v : Value} {L : List Sub} {w : World} (h : QL v L w) (k : Nat) (hk : k < L.length) : ∃ g o cap, v = .slice (some ⟨g, o, none⟩) L.length cap ∧ g < w.heap.size ∧
    w.cell? ⟨g, o + k * 2, none⟩ = some (.int .u8 ((L.getD k sub0).1.toNat : Int)) ∧ w.cell? ⟨g, o + k * 2 + 1, none⟩ = some (.string (S (L.getD k sub0).2)) := by
  obtain ⟨a, cap, rfl, hc, hm, hn, hx⟩ := h
  obtain ⟨g, o, rfl, hh⟩ := hx k hk
  exact ⟨g, o, cap, rfl, hh⟩
/-- A subfield in its box. -/
def SB (b : Nat) (s : Sub) (W : World) : Prop := W.heap[b]? = some (.cells #[.int .u8 (s.1.toNat : Int), .string (S s.2)] 57 (0, 0))
theorem SB.fr {b bl : Nat} {s : Sub} {W W' : World} (h : SB b s W) (hne : b ≠ bl) (hf : Fr bl W W') : SB b s W' := hf.keep _ _ h hne (fun cs fr e => by cases e)
theorem SB.code {b : Nat} {s : Sub} {W : World} (h : SB b s W) : W.cell? ⟨b, 0, none⟩ = some (.int .u8 (s.1.toNat : Int)) := by
  unfold SB at h
  rw [Lib.cell_of_heap h]; rfl
theorem subs_bound (t : Rul) (f : Fld) (ix : Int) (L : List Prb) (k m : Nat) (hL : L.length ≤ 100000) (hk : k ≤ 100000) (hm : m ≤ 100000) : (L ++ subsL t f ix k).length ≤ 900000 ∧ ((L ++ subsL t f ix k) ++ needsL t f ix m).length ≤ 900000 := by
  have h1 := subsL_le t f ix k
  have h2 := needsL_le t f ix m
  rw [List.length_append, List.length_append, List.length_append]
  omega

set_option maxHeartbeats 32000000 in
set_option maxRecDepth 100000 in
theorem uSubs_any (w0 : World) (B bl bi bf : Nat) (t : Rul) (f : Fld) (y : Value) (ix : Int) (L : List Prb) (W : World) (hy : QL y f.subs w0) (h : RP w0 B bl bi bf f.tag ix L W) (hL : L.length ≤ 100000) (hs : f.subs.length ≤ 100000) (hnz : t.needs.length ≤ 100000) :
    Calls Tryd.prog 40 #[UV t, y, .func (.func 39) #[] #[.pointer (some ⟨bl, 0, none⟩), .pointer (some ⟨bi, 0, none⟩), .pointer (some ⟨bf, 0, none⟩)]] W
      fun e W' => e = .returned (.tuple #[]) ∧ RP w0 B bl bi bf f.tag ix ((L ++ subsL t f ix f.subs.length) ++ needsL t f ix t.needs.length) W' ∧ ∀ b o, b < W.heap.size → W.heap[b]? = some o → b ≠ bl → (∀ cs fr, o ≠ .cells cs 44 fr) → W'.heap[b]? = some o := by
  have HQ := Lib.hid hy
  obtain ⟨a, cap, rfl, hcap, hmax⟩ := hy.length
  unfold maxLen at hmax
  obtain ⟨hb1, hb2, hb3, hb4, hb5⟩ := h.hb
  have hA := (Below.refl W.heap.size W).alloc (Nat.le_refl _) (.cells #[.string (S t.tag), .bool t.rep, .bool t.must, .string (S t.codes), .string (S t.once), .string (S t.needs), .int .i64 t.auth] 25)
  have hU := UB.new t W
  obtain ⟨Wa, hWa⟩ : ∃ Wa, W.alloc (.cells #[.string (S t.tag), .bool t.rep, .bool t.must, .string (S t.codes), .string (S t.once), .string (S t.needs), .int .i64 t.auth] 25) = Wa := ⟨_, rfl⟩
  rw [hWa] at hA hU
  have hsz : Wa.heap.size = W.heap.size + 1 := by rw [← hWa]; simp
  have hBm := BM.made 5 mkC Wa
  rw [hsz] at hBm
  have hB := (Below.refl Wa.heap.size Wa).alloc (Nat.le_refl _) (.map #[] 0)
  obtain ⟨Wb, hWb⟩ : ∃ Wb, Wa.alloc (.map #[] 0) = Wb := ⟨_, rfl⟩
  rw [hWb] at hB hBm
  have hszb : Wb.heap.size = W.heap.size + 2 := by rw [← hWb]; simp [hsz]
  have hCS : CS w0 B bl bi bf t f ix W.heap.size (W.heap.size + 1) L 0 (codeIn (f.subs.take 0)) W.heap.size W Wb :=
    ⟨(h.after hA).after hB, hU.after hB, hBm, fun b o h0 h1 _ _ => (hB.block b (by omega)).trans ((hA.block b h0).trans h1), by omega, by omega, by omega, by omega, by omega⟩
  have HWa := Lib.hid hWa
  have HWb := Lib.hid hWb
  have HSz := Lib.hid hsz
  have HCS := Lib.hid hCS
  have HKey := Lib.hid (fun c : UInt8 => key_byte c)
  have cC := Lib.hid (fun c b hb W => uContains_any t.codes c b hb W)
  have cO := Lib.hid (fun c b hb W => uContains_any t.once c b hb W)
  have cR := Lib.hid (fun M W h kind code hz => uReport_any w0 B bl bi bf f.tag ix M W h kind code hz)
  have HStep := Lib.hid (fun k => subsL_succ t f ix k)
  have HNStep := Lib.hid (fun k => needsL_succ t f ix k)
  have HBnd := Lib.hid (fun k m hk hm => subs_bound t f ix L k m hL hk hm)
  have HCl := Lib.hid (fun W (h : UB W.heap.size t W) => h.cells)
  have HS4 := Lib.hid (fun k (h : hasB t.codes (f.subs.getD k sub0).1 = false) => show subP t f ix k = [⟨4, ix, f.tag, (f.subs.getD k sub0).1⟩] from by unfold subP; rw [if_pos h])
  have HS5 := Lib.hid (fun k (h : hasB t.codes (f.subs.getD k sub0).1 = true) (h2 : (hasB t.once (f.subs.getD k sub0).1 && codeIn (f.subs.take k) (f.subs.getD k sub0).1) = true) => show subP t f ix k = [⟨5, ix, f.tag, (f.subs.getD k sub0).1⟩] from by unfold subP; rw [if_neg (by rw [h]; exact Bool.noConfusion), if_pos h2])
  have HS0 := Lib.hid (fun k (h : hasB t.codes (f.subs.getD k sub0).1 = true) (h2 : (hasB t.once (f.subs.getD k sub0).1 && codeIn (f.subs.take k) (f.subs.getD k sub0).1) = false) => show subP t f ix k = [] from by unfold subP; rw [if_neg (by rw [h]; exact Bool.noConfusion), if_neg (by rw [h2]; exact Bool.noConfusion)])
  have HN6 := Lib.hid (fun k (h : codeIn f.subs (t.needs.getD k 0) = false) => show needP t f ix k = [⟨6, ix, f.tag, t.needs.getD k 0⟩] from by unfold needP; rw [if_pos h])
  have HN0 := Lib.hid (fun k (h : codeIn f.subs (t.needs.getD k 0) = true) => show needP t f ix k = [] from by unfold needP; rw [if_neg (by rw [h]; exact Bool.noConfusion)])
  have HCode := Lib.hid (fun k (hk : k < f.subs.length) => funext (fun c => (codeIn_snoc f.subs k hk c).symm))
  have HTake : RowKit.Hid (f.subs.take f.subs.length = f.subs) := List.take_length
  obtain ⟨n, hn⟩ : ∃ n, f.subs.length = n := ⟨_, rfl⟩
  obtain ⟨m, hm⟩ : ∃ m, t.needs.length = m := ⟨_, rfl⟩
  have HN := Lib.hid hn
  have hsm : (S t.needs).size = m := by rw [S_size, hm]
  have hbtm := get_bt (S t.needs)
  have HBS := Lib.hid (fun i => bt_S t.needs i)
  rw [hn] at hcap HQ hs HCode HTake ⊢
  rw [hm] at hnz ⊢
  have HC := Lib.hid (fun W (h : UB W.heap.size t W) => h.cells)
  have HCx := Lib.hid (fun (Wx : World) (h : UB W.heap.size t Wx) => h.cells)
  unfold UV
  clear hy h hb1 hb2 hb3 hb4 hb5 hA hU hWa hsz hBm hB hWb hszb hCS hn hm hL HC HCl
  obtain ⟨st, hst⟩ : ∃ s, S t.tag = s := ⟨_, rfl⟩
  obtain ⟨sc, hsc⟩ : ∃ s, S t.codes = s := ⟨_, rfl⟩
  obtain ⟨so, hso⟩ : ∃ s, S t.once = s := ⟨_, rfl⟩
  obtain ⟨sn, hsn⟩ : ∃ s, S t.needs = s := ⟨_, rfl⟩
  rw [hst, hsc, hso, hsn] at HWa HCx ⊢
  rw [hsc] at cC
  rw [hso] at cO
  rw [hsn] at hsm hbtm HBS
  clear hst hsc hso hsn
  obtain ⟨va, hva⟩ : ∃ v, t.auth = v := ⟨_, rfl⟩
  obtain ⟨vr, hvr⟩ : ∃ v, t.rep = v := ⟨_, rfl⟩
  obtain ⟨vm, hvm⟩ : ∃ v, t.must = v := ⟨_, rfl⟩
  rw [hva, hvr, hvm] at HWa HCx ⊢
  clear hva hvr hvm
  have hmm := @run_makeMap Tryd.prog
  go_enter Tryd.func40, Tryd.ntmps40
  go_upto_region 2 with fail
  rw [HWa.out, HWb.out]
  clear HWa HWb hmm
  go_wp2
  go_loopw [13] (fun i wr => ∃ k : Nat, k ≤ n ∧ i = .int .i64 (k : Int) ∧ CS w0 B bl bi bf t f ix W.heap.size (W.heap.size + 1) (L ++ subsL t f ix k) k (codeIn (f.subs.take k)) W.heap.size W wr) (fun i _ => n - (intOf i).toNat)
  case atStart => exact ⟨0, Nat.zero_le _, rfl, by have h := HCS.out; rw [show L ++ subsL t f ix 0 = L from List.append_nil L]; exact h⟩
  case round =>
    obtain ⟨k, hk, rfl, hcs⟩ := hrel
    by_cases hkn : k < n
    · obtain ⟨g, o, cap', he, hg, c0, c1⟩ := (HQ.out.after hcs.rp.bel).at9 k (by rw [HN.out]; exact hkn)
      obtain ⟨ha, -, hcp⟩ := Value.slice.inj he
      subst ha hcp
      clear he
      have i1 : (0 : Int) ≤ (k : Int) := by omega
      have i2 : (k : Int) < (n : Int) := by omega
      have hSB : SB wr.heap.size (f.subs.getD k sub0) (wr.alloc (.cells #[.int .u8 ((f.subs.getD k sub0).1.toNat : Int), .string (S (f.subs.getD k sub0).2)] 57)) := heap_alloc_new wr _
      have hcsA := hcs.after ((Below.refl wr.heap.size wr).alloc (Nat.le_refl _) (.cells #[.int .u8 ((f.subs.getD k sub0).1.toNat : Int), .string (S (f.subs.getD k sub0).2)] 57))
      obtain ⟨wa, hwa⟩ : ∃ wa, wr.alloc (.cells #[.int .u8 ((f.subs.getD k sub0).1.toNat : Int), .string (S (f.subs.getD k sub0).2)] 57) = wa := ⟨_, rfl⟩
      rw [hwa] at hSB hcsA
      have HWA := Lib.hid hwa
      have hne : wr.heap.size ≠ bl := by
        have := hcs.rp.hb
        omega
      obtain ⟨x0, x1, x2, x3, x4, x5, x6⟩ := HCx.out _ hcsA.ub
      have y0 := hSB.code
      have HK := Lib.hid (HKey.out (f.subs.getD k sub0).1)
      have HCd := Lib.hid (HCode.out k hkn)
      have hst := HStep.out k
      have hbnd := (HBnd.out k 0 (by omega) (by omega)).1
      have S4 := Lib.hid (HS4.out k)
      have S5 := Lib.hid (HS5.out k)
      have S0 := Lib.hid (HS0.out k)
      obtain ⟨c, hc⟩ : ∃ c, (f.subs.getD k sub0).1 = c := ⟨_, rfl⟩
      obtain ⟨sv, hsv⟩ : ∃ sv, S (f.subs.getD k sub0).2 = sv := ⟨_, rfl⟩
      rw [hc] at c0 y0 HWA HK HCd S4 S5 S0
      rw [hsv] at c1 HWA
      have hSBf := Lib.hid (fun W' (hf : Fr bl wa W') => (hSB.fr hne hf).code)
      rw [hc] at hSBf
      have HMp := Lib.hid hcsA.mp
      have hlook := HMp.out.look keyed_byte Tryd.underlying66 HK.out
      have hlook' := Lib.hid hlook
      have HCA := Lib.hid hcsA
      obtain ⟨q1, h1⟩ : ∃ q, hasB t.codes c = q := ⟨_, rfl⟩
      obtain ⟨q2, h2⟩ : ∃ q, hasB t.once c = q := ⟨_, rfl⟩
      obtain ⟨q3, h3⟩ : ∃ q, codeIn (f.subs.take k) c = q := ⟨_, rfl⟩
      have d1 := Lib.hid (fun W => cC.out c q1 h1 W)
      have d2 := Lib.hid (fun W => cO.out c q2 h2 W)
      have dR := Lib.hid (fun M W h kind hz => cR.out M W h kind c hz)
      rw [h1] at S4 S5 S0
      rw [h2, h3] at S5 S0
      rw [h3] at hlook
      have HSt := Lib.hid hst
      have HBn := Lib.hid hbnd
      clear h1 h2 h3 hc hsv hwa hSB hcsA hcs hlook' hst hbnd HKey HCode HStep HS4 HS5 HS0 cC cO cR HQ
      generalize (((c.toNat : Nat)) : Int) = cv at *
      go_upto_region 5 with fail
      rw [HWA.out]
      clear HWA
      go_wp2_with fail
      refine (d1.out wa).mono ?_
      rintro e w1 ⟨rfl, hw1⟩
      rw [hw1]
      clear hw1 d1
      cases q1
      · go_wp2_with fail
        refine (dR.out _ wa HCA.out.rp 4 HBn.out).mono ?_
        rintro e w5 ⟨rfl, hRP, hFr⟩
        have hcs5 := HCA.out.report hRP hFr
        have z0 := hSBf.out w5 hFr
        have HC5 := Lib.hid hcs5
        clear hRP hFr hcs5 x0 x1 x2 x3 x4 x5 x6 y0 c0 c1 hlook
        go_wp2_with (at_mapUpdate; refine wpList_store_bm _ rfl _ _ _ 66 rfl mkC_inj mkC_key HC5.out.mp keyed_byte Tryd.underlying66 (by unfold maxLen; omega) rfl rfl _ c rfl HK.out ?_; intro w6 hbm6 hgrow6)
        go_roundw
        case rel =>
          refine ⟨k + 1, by omega, by go_num, ?_⟩
          have h6 := HC5.out.store hbm6 hgrow6
          rw [HCd.out] at h6
          rw [HSt.out, S4.out (by trivial), ← List.append_assoc]
          exact h6
        case measure => simp [intOf]; omega
      · have R5 := Lib.hid (S5.out (by trivial))
        have R0 := Lib.hid (S0.out (by trivial))
        clear S4 S5 S0
        go_wp2_with fail
        refine (d2.out wa).mono ?_
        rintro e w1 ⟨rfl, hw1⟩
        rw [hw1]
        clear hw1 d2
        cases q2
        · have HE := Lib.hid (R0.out (by trivial))
          clear R5 R0 x0 x1 x2 x3 x4 x5 x6 c0 c1 hlook hSBf dR
          go_wp2_with (at_mapUpdate; refine wpList_store_bm _ rfl _ _ _ 66 rfl mkC_inj mkC_key HCA.out.mp keyed_byte Tryd.underlying66 (by unfold maxLen; omega) rfl rfl _ c rfl HK.out ?_; intro w6 hbm6 hgrow6)
          go_roundw
          case rel =>
            refine ⟨k + 1, by omega, by go_num, ?_⟩
            have h6 := HCA.out.store hbm6 hgrow6
            rw [HCd.out] at h6
            rw [HSt.out, HE.out, List.append_nil]
            exact h6
          case measure => simp [intOf]; omega
        · cases q3
          · have HE := Lib.hid (R0.out (by trivial))
            clear R5 R0 x0 x1 x2 x3 x4 x5 x6 c0 c1 hSBf dR
            go_wp2_with (at_mapUpdate; refine wpList_store_bm _ rfl _ _ _ 66 rfl mkC_inj mkC_key HCA.out.mp keyed_byte Tryd.underlying66 (by unfold maxLen; omega) rfl rfl _ c rfl HK.out ?_; intro w6 hbm6 hgrow6)
            go_roundw
            case rel =>
              refine ⟨k + 1, by omega, by go_num, ?_⟩
              have h6 := HCA.out.store hbm6 hgrow6
              rw [HCd.out] at h6
              rw [HSt.out, HE.out, List.append_nil]
              exact h6
            case measure => simp [intOf]; omega
          · have HE := Lib.hid (R5.out (by trivial))
            clear R5 R0
            go_wp2_with fail
            refine (dR.out _ wa HCA.out.rp 5 HBn.out).mono ?_
            rintro e w5 ⟨rfl, hRP, hFr⟩
            have hcs5 := HCA.out.report hRP hFr
            have z0 := hSBf.out w5 hFr
            have HC5 := Lib.hid hcs5
            clear hRP hFr hcs5 x0 x1 x2 x3 x4 x5 x6 y0 c0 c1 hlook
            go_wp2_with (at_mapUpdate; refine wpList_store_bm _ rfl _ _ _ 66 rfl mkC_inj mkC_key HC5.out.mp keyed_byte Tryd.underlying66 (by unfold maxLen; omega) rfl rfl _ c rfl HK.out ?_; intro w6 hbm6 hgrow6)
            go_roundw
            case rel =>
              refine ⟨k + 1, by omega, by go_num, ?_⟩
              have h6 := HC5.out.store hbm6 hgrow6
              rw [HCd.out] at h6
              rw [HSt.out, HE.out, ← List.append_assoc]
              exact h6
            case measure => simp [intOf]; omega
    · obtain rfl : k = n := by omega
      rw [HTake.out] at hcs
      obtain ⟨x0, x1, x2, x3, x4, x5, x6⟩ := HCx.out _ hcs.ub
      have HCS2 := Lib.hid hcs
      have HNK := Lib.hid (fun q => HKey.out (t.needs.getD q 0))
      clear hcs HCode HStep HS4 HS5 HS0 cC cO HQ HCS
      go_wp2
      go_loopw [51] (fun i wr2 => ∃ q : Nat, q ≤ m ∧ i = .int .i64 (q : Int) ∧ CS w0 B bl bi bf t f ix W.heap.size (W.heap.size + 1) ((L ++ subsL t f ix k) ++ needsL t f ix q) k (codeIn f.subs) W.heap.size W wr2) (fun i _ => m - (intOf i).toNat)
      case atStart => exact ⟨0, Nat.zero_le _, rfl, by have h := HCS2.out; rw [show (L ++ subsL t f ix k) ++ needsL t f ix 0 = L ++ subsL t f ix k from List.append_nil _]; exact h⟩
      case round =>
        obtain ⟨q, hq, rfl, hcs⟩ := hrel
        by_cases hqm : q < m
        · clear x0 x1 x2 x3 x4 x5 x6
          obtain ⟨x0, x1, x2, x3, x4, x5, x6⟩ := HCx.out _ hcs.ub
          have i1 : (0 : Int) ≤ (q : Int) := by omega
          have i2 : (q : Int) < (m : Int) := by omega
          have hbq := HBS.out q
          have hlook := hcs.mp.look keyed_byte Tryd.underlying66 (HNK.out q)
          have hst := HNStep.out q
          have hbnd := (HBnd.out k q (by omega) (by omega)).2
          have N6 := Lib.hid (HN6.out q)
          have N0 := Lib.hid (HN0.out q)
          obtain ⟨qq, h3⟩ : ∃ b, codeIn f.subs (t.needs.getD q 0) = b := ⟨_, rfl⟩
          have dR := Lib.hid (fun M W h kind hz => cR.out M W h kind (t.needs.getD q 0) hz)
          rw [h3] at hlook N6 N0
          rw [← hbq] at hlook dR
          have HSt := Lib.hid hst
          have HBn := Lib.hid hbnd
          have HCA := Lib.hid hcs
          clear h3 hst hbnd hcs hbq
          cases qq
          · have HE := Lib.hid (N6.out (by trivial))
            clear N6 N0
            go_wp2_with fail
            refine (dR.out _ _ HCA.out.rp 6 HBn.out).mono ?_
            rintro e w5 ⟨rfl, hRP, hFr⟩
            have hcs5 := HCA.out.report hRP hFr
            have HC5 := Lib.hid hcs5
            clear hRP hFr hcs5 x0 x1 x2 x3 x4 x5 x6 hlook
            go_wp2
            go_roundw
            case rel => exact ⟨q + 1, by omega, by go_num, by rw [HSt.out, HE.out, ← List.append_assoc]; exact HC5.out⟩
            case measure => simp [intOf]; omega
          · have HE := Lib.hid (N0.out (by trivial))
            clear N6 N0 dR
            go_wp2
            go_roundw
            case rel => exact ⟨q + 1, by omega, by go_num, by rw [HSt.out, HE.out, List.append_nil]; exact HCA.out⟩
            case measure => simp [intOf]; omega
        · obtain rfl : q = m := by omega
          have HFin := Lib.hid hcs
          clear hcs
          go_wp2
          go_end0
          exact ⟨rfl, HFin.out.rp, fun b o h0 h1 h2 h3 => HFin.out.fr b o h0 h1 h2 h3⟩
end Go.Proofs.YtjfdolmcecgdgaaDoor

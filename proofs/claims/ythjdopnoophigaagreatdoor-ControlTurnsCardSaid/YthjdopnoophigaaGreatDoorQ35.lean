/- Merged: KS14, FD07, FF07, R07K, FJ07. -/
import Derived.Test.YthjdopnoophigaaGreatDoorQ24
import Derived.Test.YthjdopnoophigaaGreatDoorQ33
import Derived.Test.YthjdopnoophigaaGreatDoorQ04
import Derived.Test.YthjdopnoophigaaGreatDoorQ20
import Derived.Test.YthjdopnoophigaaGreatDoorQ08
import Derived.Test.YthjdopnoophigaaGreatDoorQ23
import Derived.Test.YthjdopnoophigaaGreatDoorQ19
import Derived.Deep.RegionHeld3
import Derived.Deep.CutBlock
import Derived.Deep.DeepCutAuto
import Derived.Test.YthjdopnoophigaaGreatDoorQ12
import Derived.Lib.AppendStr
namespace Go.Proofs.YthjdopnoophigaaGreatDoor

section
open Go.RowKit Go.PlainAid
theorem looseL_take (L : List Fld) (k : Nat) (hk : k < L.length) : looseL (L.take (k + 1)) 0 = looseL (L.take k) 0 ++ (if looseX (L.getD k fd0) = true then [(k : Int)] else []) := by
  have e : L.take (k + 1) = L.take k ++ [L.getD k fd0] := by
    rw [List.take_succ_eq_append_getElem hk, List.getD_eq_getElem?_getD, List.getElem?_eq_getElem hk]
    rfl
  rw [e, looseL_snoc, List.length_take, Nat.min_eq_left (by omega), Nat.zero_add]
set_option maxHeartbeats 16000000 in
set_option maxRecDepth 100000 in
theorem pLoose_any (r : Rec) (u : Value) (w : World) (hE : Env w) (hu : FL u r.fields w) (hz : r.fields.length ≤ 100000) :
    Calls Tryz.prog 16 #[RV r u] w fun e w' => ∃ v', e = .returned v' ∧ IL v' (looseL r.fields 0) w' ∧ Below w.heap.size w w' := by
  obtain ⟨Q, hQ⟩ : ∃ Q, (fun (e : Ending) (w' : World) => ∃ v', e = .returned v' ∧ IL v' (looseL r.fields 0) w' ∧ Below w.heap.size w w') = Q := ⟨_, rfl⟩
  rw [hQ]
  have HQ : RowKit.Hid (∀ v' W, IR w.heap.size v' (looseL r.fields 0) W → Below w.heap.size w W → Q (.returned v') W) := by
    rw [← hQ]
    exact fun v' W h1 h2 => ⟨v', rfl, h1.il, h2⟩
  obtain ⟨W0, hW0⟩ : ∃ W0, w.alloc (.cells #[.int .i64 r.id, .int .i64 r.ver, .int .i64 r.kind, .string (S r.lang), u] 33) = W0 := ⟨_, rfl⟩
  have b0 : Below w.heap.size w W0 := by rw [← hW0]; exact (Below.refl w.heap.size w).alloc (Nat.le_refl _) _
  have hX : W0.heap[w.heap.size]? = some (.cells #[.int .i64 r.id, .int .i64 r.ver, .int .i64 r.kind, .string (S r.lang), u] 33 (0, 0)) := by rw [← hW0]; exact heap_alloc_new w _
  obtain ⟨⟨x0, x1, x2, x3, x4⟩, -⟩ := rcells14 hX
  have HU := Lib.hid (fun (W : World) (h : Below w.heap.size w W) => hu.after h)
  have cL := Lib.hid (fun (f : Fld) (x : Value) (W : World) (h : Below w.heap.size w W) (hx : QL x f.subs W) => loose_any f x W (hE.after h).std hx)
  have HW0 := Lib.hid hW0
  have HB0 := Lib.hid b0
  obtain ⟨a, cp, hua, hcap, hmax⟩ := hu.length
  unfold maxLen at hmax
  unfold RV
  subst hua
  generalize hL : r.fields = L at *
  clear hQ hu hE hW0 hX b0 hL
  generalize hn : L.length = n at *
  have HN := Lib.hid hn
  clear hn
  generalize S r.lang = lg at *
  go_enter Tryz.func16, Tryz.ntmps16
  go_upto_region 1 with fail
  rw [HW0.out]
  clear HW0
  go_wp2
  clear x0 x1 x2 x3 x4
  go_loopw [3, 9] (fun s3 s9 wr => ∃ k : Nat, s9 = .int .i64 (k : Int) ∧ k ≤ n ∧ RowKit.Hid (IR w.heap.size s3 (looseL (L.take k) 0) wr) ∧ RowKit.Hid (Below w.heap.size w wr)) (fun _ s9 _ => n - (intOf s9).toNat)
  case atStart => exact ⟨0, rfl, Nat.zero_le _, IR.zero _ _, HB0.out⟩
  case round =>
    obtain ⟨k, rfl, hk, HI, HB⟩ := hrel
    by_cases hkn : k < n
    · have i1 : (0 : Int) ≤ (k : Int) := by omega
      have i2 : (k : Int) < (n : Int) := by omega
      obtain ⟨g, o, cap', x, he, hg, c0, c1, c2, c3, hq⟩ := (HU.out wr HB.out).at k (by rw [HN.out]; exact hkn)
      obtain ⟨rfl, -, hcp⟩ := Value.slice.inj he
      subst hcp
      have hsn := looseL_take L k (by rw [HN.out]; exact hkn)
      have hlen : (looseL (L.take k) 0).length ≤ 100000 := by
        have := looseL_len (L.take k) 0
        rw [List.length_take] at this
        omega
      obtain ⟨f, hf⟩ : ∃ f, L.getD k fd0 = f := ⟨_, rfl⟩
      rw [hf] at c0 c1 c3 hq hsn
      obtain ⟨wb, hwb⟩ : ∃ W, wr.alloc (.cells #[.string (S f.tag), .string (S f.ind), x, .int .i64 f.auth] 24) = W := ⟨_, rfl⟩
      have bb : Below wr.heap.size wr wb := by rw [← hwb]; exact (Below.refl _ _).alloc (Nat.le_refl _) _
      have hFx : wb.heap[wr.heap.size]? = some (.cells #[.string (S f.tag), .string (S f.ind), x, .int .i64 f.auth] 24 (0, 0)) := by rw [← hwb]; exact heap_alloc_new wr _
      obtain ⟨⟨y0, y1, y2, y3⟩, -⟩ := fcells4 hFx
      have HBb := Lib.hid (HB.out.trans (bb.mono HB.out.size))
      have HIb := Lib.hid (HI.out.after bb)
      have cl := Lib.hid (cL.out f x wb HBb.out (hq.after bb))
      have HWb := Lib.hid hwb
      obtain ⟨ax, cx, hxv, -, -⟩ := hq.length
      obtain ⟨M, hM⟩ : ∃ M, looseL (L.take k) 0 = M := ⟨_, rfl⟩
      rw [hM] at hsn hlen HIb
      have HSn := Lib.hid hsn
      have HLen := Lib.hid hlen
      unfold FV at cl
      subst hxv
      clear he hg hq hsn hlen hf hwb bb hFx HB HI hM
      generalize f.subs.length = nx at *
      generalize S f.tag = t0 at *
      generalize S f.ind = t1 at *
      generalize f.auth = t3 at *
      generalize looseX f = lb at *
      go_upto_region 5 with fail
      rw [HWb.out]
      clear c0 c1 c2 c3 HWb
      go_wp2_with fail
      refine cl.out.mono ?_
      rintro e w5 ⟨rfl, hb5⟩
      have HB5 := Lib.hid (HBb.out.trans (hb5.mono HBb.out.size))
      have HI5 := Lib.hid (HIb.out.after hb5)
      clear hb5 HBb HIb cl
      cases lb
      · have hs := HSn.out
        rw [if_neg (by decide), List.append_nil] at hs
        have HS := Lib.hid hs
        clear hs HSn
        go_wp2
        go_roundw
        case rel => exact ⟨k + 1, by go_num, by omega, by rw [HS.out]; exact HI5.out, HB5.out⟩
        case measure => simp [intOf]; omega
      · have hs := HSn.out
        rw [if_pos rfl] at hs
        have HS := Lib.hid hs
        clear hs HSn
        go_wp2_with (at_builtin; refine append_ir _ rfl _ _ rfl w.heap.size u3 M (k : Int) rfl HI5.out rfl (by have := HLen.out; omega) HB5.out.size w.heap.size w (Nat.le_refl _) HB5.out ?_; intro v' w' hs' hb' hB')
        have HS2 := Lib.hid hs'
        have HB2 := Lib.hid hb'
        clear hs' hb' hB' HI5 HB5
        go_wp2
        go_roundw
        case rel => exact ⟨k + 1, by go_num, by omega, by rw [HS.out]; exact HS2.out, HB2.out⟩
        case measure => simp [intOf]; omega
    · obtain rfl : k = n := by omega
      have hT : L.take k = L := by rw [← HN.out, List.take_length]
      rw [hT] at HI
      have HG := Lib.hid (HQ.out _ wr HI.out HB.out)
      clear HI HB HQ
      go_wp2
      first | exact HG.out | (go_ret; exact HG.out)
end

section
open Go.RowKit Go.PlainAid

end

section
open Go.RowKit Go.PlainAid
set_option maxHeartbeats 16000000 in
theorem rightSub_any (s : Sub) (hz : s.2.length ≤ 1000000) (er : Int) (hb : subE s = er) (w : World) (hE : Env w) :
    Calls Tryz.prog 86 #[.agg #[.int .u8 (s.1.toNat : Int), .string (S s.2)]] w fun e w' => e = .returned (.int .i64 er) ∧ Below w.heap.size w w' := by
  obtain ⟨code, val⟩ := s
  have b0 := (Below.refl w.heap.size w).alloc (Nat.le_refl _) (.cells #[.int .u8 (code.toNat : Int), .string (S val)] 48)
  have k1 : (w.alloc (.cells #[.int .u8 (code.toNat : Int), .string (S val)] 48)).cell? ⟨w.heap.size, 1, none⟩ = some (.string (S val)) := by simp
  have hlx : w.heap.size < (w.alloc (.cells #[.int .u8 (code.toNat : Int), .string (S val)] 48)).heap.size := by simp
  have cV := Lib.hid (fun b hb => cValid val hz b hb _ (hE.after b0))
  have hEm : ((S val).toList == []) = decide (val = []) := by
    rw [ByteArray.toList_eq]
    show (val == []) = _
    cases val with
    | nil => rfl
    | cons y t => simp
  have hEm2 : (S val).toList.isEmpty = decide (val = []) := by
    rw [ByteArray.toList_eq]
    show val.isEmpty = _
    cases val with
    | nil => rfl
    | cons y t => simp
  have hvs := S_size val
  have hcd : codeB code = (digB code || letB code) := rfl
  unfold subE at hb
  simp only at hz hb ⊢
  obtain ⟨lb, hlb⟩ : ∃ lb, letB code = lb := ⟨_, rfl⟩
  obtain ⟨db, hdb⟩ : ∃ db, digB code = db := ⟨_, rfl⟩
  have cL := Lib.hid (fun W => fletter_any code lb hlb W)
  have cD := Lib.hid (fun W => fdigit_any code db hdb W)
  rw [hlb, hdb] at hcd
  rw [hcd] at hb
  clear hlb hdb hcd hE
  generalize ((code.toNat : Nat) : Int) = y at *
  by_cases hn : (db || lb) = false
  · rw [if_pos hn] at hb
    subst hb
    obtain ⟨rfl, rfl⟩ : db = false ∧ lb = false := by simpa using hn
    go_enter Tryz.func86, Tryz.ntmps86
    go_wp2_with fail
    refine (cL.out _).mono ?_
    rintro e w1 ⟨rfl, rfl⟩
    go_wp2_with fail
    refine (cD.out _).mono ?_
    rintro e w1 ⟨rfl, rfl⟩
    go_wp2
    go_ret
    exact ⟨rfl, b0⟩
  rw [if_neg hn] at hb
  have hor : lb = true ∨ (lb = false ∧ db = true) := by cases lb <;> cases db <;> simp_all
  clear hn
  by_cases hv0 : val = []
  · rw [decide_eq_true hv0] at hEm hEm2
    rw [if_pos hv0] at hb
    subst hb
    clear hv0
    rcases hor with rfl | ⟨rfl, rfl⟩
    · go_enter Tryz.func86, Tryz.ntmps86
      go_wp2_with fail
      refine (cL.out _).mono ?_
      rintro e w1 ⟨rfl, rfl⟩
      go_wp2
      go_ret
      exact ⟨rfl, b0⟩
    · go_enter Tryz.func86, Tryz.ntmps86
      go_wp2_with fail
      refine (cL.out _).mono ?_
      rintro e w1 ⟨rfl, rfl⟩
      go_wp2_with fail
      refine (cD.out _).mono ?_
      rintro e w1 ⟨rfl, rfl⟩
      go_wp2
      go_ret
      exact ⟨rfl, b0⟩
  rw [decide_eq_false hv0] at hEm hEm2
  rw [if_neg hv0] at hb
  clear hv0
  cases hvt : validT val
  · have cV := Lib.hid (cV.out false hvt)
    rw [if_pos hvt] at hb
    subst hb
    clear hvt
    rcases hor with rfl | ⟨rfl, rfl⟩
    · go_enter Tryz.func86, Tryz.ntmps86
      go_wp2_with fail
      refine (cL.out _).mono ?_
      rintro e w1 ⟨rfl, rfl⟩
      go_wp2_with fail
      refine cV.out.mono ?_
      rintro e w2 ⟨rfl, c⟩
      have b2 := b0.trans (c.mono b0.size)
      go_wp2
      go_ret
      exact ⟨rfl, b2⟩
    · go_enter Tryz.func86, Tryz.ntmps86
      go_wp2_with fail
      refine (cL.out _).mono ?_
      rintro e w1 ⟨rfl, rfl⟩
      go_wp2_with fail
      refine (cD.out _).mono ?_
      rintro e w1 ⟨rfl, rfl⟩
      go_wp2_with fail
      refine cV.out.mono ?_
      rintro e w2 ⟨rfl, c⟩
      have b2 := b0.trans (c.mono b0.size)
      go_wp2
      go_ret
      exact ⟨rfl, b2⟩
  have cV := Lib.hid (cV.out true hvt)
  rw [if_neg (by rw [hvt]; decide)] at hb
  clear hvt
  obtain ⟨lg, hlg⟩ : ∃ lg, decide ((200 : Int) < (val.length : Int)) = lg := ⟨_, rfl⟩
  have her : er = if lg = true then 4 else 0 := by
    rw [← hb, ← hlg]
    by_cases h : 200 < val.length
    · rw [if_pos h, if_pos (decide_eq_true (by omega))]
    · rw [if_neg h, if_neg]
      rw [decide_eq_true_iff]
      omega
  clear hb
  generalize val.length = vl at *
  rcases hor with rfl | ⟨rfl, rfl⟩
  · go_enter Tryz.func86, Tryz.ntmps86
    go_wp2_with fail
    refine (cL.out _).mono ?_
    rintro e w1 ⟨rfl, rfl⟩
    go_wp2_with fail
    refine cV.out.mono ?_
    rintro e w2 ⟨rfl, c⟩
    have b2 := b0.trans (c.mono b0.size)
    have k1b := (c.cell (p := ⟨w.heap.size, 1, none⟩) hlx).trans k1
    clear c k1
    cases lg
    · subst her
      go_wp2
      go_ret
      exact ⟨rfl, b2⟩
    · subst her
      go_wp2
      go_ret
      exact ⟨rfl, b2⟩
  · go_enter Tryz.func86, Tryz.ntmps86
    go_wp2_with fail
    refine (cL.out _).mono ?_
    rintro e w1 ⟨rfl, rfl⟩
    go_wp2_with fail
    refine (cD.out _).mono ?_
    rintro e w1 ⟨rfl, rfl⟩
    go_wp2_with fail
    refine cV.out.mono ?_
    rintro e w2 ⟨rfl, c⟩
    have b2 := b0.trans (c.mono b0.size)
    have k1b := (c.cell (p := ⟨w.heap.size, 1, none⟩) hlx).trans k1
    clear c k1
    cases lg
    · subst her
      go_wp2
      go_ret
      exact ⟨rfl, b2⟩
    · subst her
      go_wp2
      go_ret
      exact ⟨rfl, b2⟩

/-- What the tag's test says. -/
theorem tag_cases (l : List UInt8) : (l.length ≠ 3 ∧ tagB l = false) ∨ (l.length = 3 ∧ l.all digB = false ∧ tagB l = false) ∨ (l.length = 3 ∧ l.all digB = true ∧ Op.bytesLess l [48, 49, 48] = !tagB l) := by
  by_cases h3 : l.length = 3
  · match l, h3 with
    | [a, b, c], _ =>
      have e : tagB [a, b, c] = (digB a && digB b && digB c && !(decide (a = 48) && decide (b = 48))) := by
        show (decide ((3 : Nat) = 3) && digB a && digB b && digB c && !(decide (a = 48) && decide (b = 48))) = _
        simp
      have ea : [a, b, c].all digB = (digB a && digB b && digB c) := by simp [Bool.and_assoc]
      cases hd : (digB a && digB b && digB c)
      · refine .inr (.inl ⟨rfl, by rw [ea, hd], by rw [e, hd, Bool.false_and]⟩)
      · refine .inr (.inr ⟨rfl, by rw [ea, hd], ?_⟩)
        simp only [Bool.and_eq_true] at hd
        rw [less_three [a, b, c] rfl ((digB_iff _).1 hd.1.1).1 ((digB_iff _).1 hd.1.2).1 ((digB_iff _).1 hd.2).1, e, hd.1.1, hd.1.2, hd.2]
        simp
  · refine .inl ⟨h3, ?_⟩
    unfold tagB
    rw [decide_eq_false h3]
    rfl
theorem ind_cases (l : List UInt8) : (l.length ≠ 2 ∧ indsB l = false) ∨ (l.length = 2 ∧ (subL 32 [] l).all digB = indsB l) := by
  by_cases h2 : l.length = 2
  · match l, h2 with
    | [a, b], _ =>
      refine .inr ⟨rfl, ?_⟩
      rw [sub_inds]
      show _ = (decide ((2 : Nat) = 2) && indB a && indB b)
      simp
  · refine .inl ⟨h2, ?_⟩
    unfold indsB
    rw [decide_eq_false h2]
    rfl
theorem sub_le (c : UInt8) (l : List UInt8) : (subL c [] l).length ≤ l.length := by
  induction l with
  | nil => simp [subL]
  | cons x t ih =>
    unfold subL at ih ⊢
    rw [List.flatMap_cons, List.length_append]
    split
    · simp only [List.length_nil, List.length_cons]; omega
    · simp only [List.length_nil, List.length_cons]; omega
theorem lss_010 (l : List UInt8) (b : Bool) (h : Op.bytesLess l [48, 49, 48] = b) : Op.bytesLess (S l).toList [48, 49, 48] = b := by
  have e2 : (S l).toList = l := by rw [ByteArray.toList_eq]; rfl
  rw [e2, h]

set_option maxHeartbeats 16000000 in
set_option maxRecDepth 100000 in
theorem fRight_any (f : Fld) (u : Value) (w : World) (hE : Env w) (hu : QL u f.subs w) (hz : ∀ i, i < f.subs.length → (f.subs.getD i sub0).2.length ≤ 1000000) (er : Int) (hb : rightI f = er) :
    Calls Tryz.prog 55 #[FV f u] w fun e w' => e = .returned (.int .i64 er) ∧ Below w.heap.size w w' := by
  obtain ⟨a, cap, rfl, hcap, hmax, _, hcell⟩ := hu
  unfold maxLen at hmax
  unfold FV
  unfold rightI at hb
  obtain ⟨n, hn⟩ : ∃ n, f.subs.length = n := ⟨_, rfl⟩
  have HCell := Lib.hid hcell
  have HZ := Lib.hid hz
  rw [hn] at hcap hb ⊢
  have HN := Lib.hid hn
  clear hcell hn hz
  obtain ⟨W0, hW0⟩ : ∃ W0, w.alloc (.cells #[.string (S f.tag), .string (S f.ind), .slice a n cap, .int .i64 f.auth] 24) = W0 := ⟨_, rfl⟩
  have b0 : Below w.heap.size w W0 := by rw [← hW0]; exact (Below.refl w.heap.size w).alloc (Nat.le_refl _) _
  have hlt : w.heap.size < W0.heap.size := by rw [← hW0]; simp
  have k0 : W0.cell? ⟨w.heap.size, 0, none⟩ = some (.string (S f.tag)) := by rw [← hW0]; simp
  have k1 : W0.cell? ⟨w.heap.size, 1, none⟩ = some (.string (S f.ind)) := by rw [← hW0]; simp
  have k2 : W0.cell? ⟨w.heap.size, 2, none⟩ = some (.slice a n cap) := by rw [← hW0]; simp
  have k3 : W0.cell? ⟨w.heap.size, 3, none⟩ = some (.int .i64 f.auth) := by rw [← hW0]; simp
  have HE := Lib.hid (hE.after b0)
  have HW0 := Lib.hid hW0
  clear hW0 hE
  have hts := S_size f.tag
  have his := S_size f.ind
  rcases tag_cases f.tag with ⟨h3, ht⟩ | ⟨h3, hd, ht⟩ | ⟨h3, hd, hl⟩
  · rw [if_pos ht] at hb
    subst hb
    have t1 : (((f.tag.length : Nat) : Int) != 3) = true := by simp; omega
    clear h3 ht
    generalize f.tag.length = tl at *
    go_enter Tryz.func55, Tryz.ntmps55
    go_wp2
    go_ret
    rw [HW0.out]
    exact ⟨rfl, b0⟩
  · have cD := Lib.hid (fun W => fdigits_any f.tag (by omega) false hd W)
    rw [if_pos ht] at hb
    subst hb
    rw [h3] at hts
    clear h3 ht hd
    go_enter Tryz.func55, Tryz.ntmps55
    go_wp2_with fail
    refine (cD.out _).mono ?_
    rintro e w1 ⟨rfl, rfl⟩
    go_wp2
    go_ret
    rw [HW0.out]
    exact ⟨rfl, b0⟩
  have cD := Lib.hid (fun W => fdigits_any f.tag (by omega) true hd W)
  have hls := lss_010 f.tag _ hl
  rw [h3] at hts
  cases ht : tagB f.tag
  · rw [if_pos ht] at hb
    subst hb
    simp only [ht, Bool.not_false] at hls
    clear h3 ht hd hl
    go_enter Tryz.func55, Tryz.ntmps55
    go_wp2_with fail
    refine (cD.out _).mono ?_
    rintro e w1 ⟨rfl, rfl⟩
    go_wp2
    go_ret
    rw [HW0.out]
    exact ⟨rfl, b0⟩
  rw [if_neg (by rw [ht]; intro h; cases h)] at hb
  simp only [ht, Bool.not_true] at hls
  clear h3 ht hd hl
  rcases ind_cases f.ind with ⟨h2, hi⟩ | ⟨h2, hd2⟩
  · rw [if_pos hi] at hb
    subst hb
    have t1 : (((f.ind.length : Nat) : Int) != 2) = true := by simp; omega
    clear h2 hi
    generalize f.ind.length = il at *
    go_enter Tryz.func55, Tryz.ntmps55
    go_wp2_with fail
    refine (cD.out _).mono ?_
    rintro e w1 ⟨rfl, rfl⟩
    go_wp2
    go_ret
    rw [HW0.out]
    exact ⟨rfl, b0⟩
  have cS := Lib.hid (cStrike f.ind (by omega) W0 HE.out)
  have hsl := sub_le 32 f.ind
  rw [h2] at his
  cases hi : indsB f.ind
  · have cD2 := Lib.hid (fun W => fdigits_any (subL 32 [] f.ind) (by omega) false (by rw [hd2, hi]) W)
    rw [if_pos hi] at hb
    subst hb
    clear h2 hi hd2 hsl
    generalize S (subL 32 [] f.ind) = si at *
    go_enter Tryz.func55, Tryz.ntmps55
    go_wp2_with fail
    refine (cD.out _).mono ?_
    rintro e w1 ⟨rfl, rfl⟩
    go_wp2_with fail
    rw [HW0.out]
    refine (cS.out).mono ?_
    rintro e w1 ⟨rfl, c⟩
    have b1 := b0.trans (c.mono b0.size)
    go_wp2_with fail
    refine (cD2.out _).mono ?_
    rintro e w2 ⟨rfl, rfl⟩
    go_wp2
    go_ret
    exact ⟨rfl, b1⟩
  have cD2 := Lib.hid (fun W => fdigits_any (subL 32 [] f.ind) (by omega) true (by rw [hd2, hi]) W)
  rw [if_neg (by rw [hi]; intro h; cases h)] at hb
  clear h2 hi hd2 hsl
  generalize S (subL 32 [] f.ind) = si at *
  have HB := Lib.hid hb
  clear hb
  go_enter Tryz.func55, Tryz.ntmps55
  go_wp2_with fail
  refine (cD.out _).mono ?_
  rintro e w1 ⟨rfl, rfl⟩
  go_wp2_with fail
  rw [HW0.out]
  refine (cS.out).mono ?_
  rintro e w1 ⟨rfl, c⟩
  have b1 := b0.trans (c.mono b0.size)
  have HE1 := Lib.hid (HE.out.after c)
  have hb0 := c
  have m2 := (c.cell (p := ⟨w.heap.size, 2, none⟩) hlt).trans k2
  have m3 := (c.cell (p := ⟨w.heap.size, 3, none⟩) hlt).trans k3
  have hlt1 : w.heap.size < w1.heap.size := Nat.lt_of_lt_of_le hlt c.size
  clear c k0 k1 k2 k3 HE cS
  go_wp2_with fail
  refine (cD2.out _).mono ?_
  rintro e w2 ⟨rfl, hw2⟩
  rw [hw2]
  clear hw2 w2
  clear cD cD2 hls
  by_cases hn0 : n = 0
  · have hb := HB.out
    rw [if_pos hn0] at hb
    subst hb
    have t2 : ((n : Int) == 0) = true := by simp; omega
    clear hn0 HB
    go_wp2
    go_ret
    exact ⟨rfl, b1⟩
  have t2 : ((n : Int) == 0) = false := by simp; omega
  by_cases hn16 : 16 < n
  · have hb := HB.out
    rw [if_neg hn0, if_pos hn16] at hb
    subst hb
    have t3 : decide ((16 : Int) < (n : Int)) = true := by simp; omega
    clear hn0 HB hn16
    go_wp2
    go_ret
    exact ⟨rfl, b1⟩
  have t3 : decide ((16 : Int) < (n : Int)) = false := by simp; omega
  have hb := HB.out
  rw [if_neg hn0, if_neg hn16] at hb
  clear HB hn0 hn16
  have HB := Lib.hid hb
  clear hb
  go_wp2
  go_loopw [47] (fun i wr => ∃ k : Nat, k ≤ n ∧ i = .int .i64 (k : Int) ∧ RowKit.Hid (∀ j, j < k → subE (f.subs.getD j sub0) = 0) ∧ Below w1.heap.size w1 wr) (fun i _ => n - (intOf i).toNat)
  case atStart => exact ⟨0, Nat.zero_le _, rfl, (fun j hj => by omega), Below.refl _ _⟩
  case round =>
    obtain ⟨k, hk, rfl, HJ, hbw⟩ := hrel
    have j3 := (hbw.cell (p := ⟨w.heap.size, 3, none⟩) hlt1).trans m3
    by_cases hkn : k < n
    · obtain ⟨g, o, rfl, hg, c1, c2⟩ := HCell.out k (by rw [HN.out]; exact hkn)
      have hg1 : g < w1.heap.size := Nat.lt_of_lt_of_le hg b1.size
      have c1 : wr.cell? ⟨g, o + k * 2, none⟩ = some (.int .u8 ((f.subs.getD k sub0).1.toNat : Int)) := ((hbw.cell (p := ⟨g, o + k * 2, none⟩) hg1).trans (b1.cell (p := ⟨g, o + k * 2, none⟩) hg)).trans c1
      have c2 : wr.cell? ⟨g, o + k * 2 + 1, none⟩ = some (.string (S (f.subs.getD k sub0).2)) := ((hbw.cell (p := ⟨g, o + k * 2 + 1, none⟩) hg1).trans (b1.cell (p := ⟨g, o + k * 2 + 1, none⟩) hg)).trans c2
      have i1 : (0 : Int) ≤ (k : Int) := by omega
      have i2 : (k : Int) < (n : Int) := by omega
      have hsz := hbw.size
      have hx := firstE_hit f.subs k (by rw [HN.out]; exact hkn) HJ.out
      have hval := HZ.out k (by rw [HN.out]; exact hkn)
      have HJ2 : RowKit.Hid (subE (f.subs.getD k sub0) = 0 → ∀ j, j < k + 1 → subE (f.subs.getD j sub0) = 0) := by
        intro h0 j hj
        rcases Nat.lt_or_ge j k with h | h
        · exact HJ.out j h
        · rw [show j = k by omega]; exact h0
      obtain ⟨sb, hsub⟩ : ∃ z, f.subs.getD k sub0 = z := ⟨_, rfl⟩
      rw [hsub] at c1 c2 hx hval HJ2
      have hba : Below w1.heap.size w1 (wr.alloc (.cells #[.int .u8 (sb.1.toNat : Int), .string (S sb.2)] 48)) := hbw.alloc hsz _
      have cR := Lib.hid (fun er' h' => rightSub_any sb hval er' h' _ (HE1.out.after hba))
      have HX := Lib.hid hx
      clear hsub HJ hbw hx
      obtain ⟨es, hes⟩ : ∃ es, subE sb = es := ⟨_, rfl⟩
      have cR := Lib.hid (cR.out es hes)
      by_cases h0 : es = 0
      · subst h0
        have HJ3 := Lib.hid (HJ2.out hes)
        clear HJ2 HX hes
        generalize ((sb.1.toNat : Nat) : Int) = y at *
        generalize S sb.2 = x at *
        go_wp2_with fail
        refine cR.out.mono ?_
        rintro e w5 ⟨rfl, c⟩
        have b5 := hba.trans (c.mono hba.size)
        go_wp2
        go_roundw
        case rel => exact ⟨k + 1, by omega, by go_num, HJ3.out, b5⟩
        case measure => simp [intOf]; omega
      · have hb := HB.out
        have hfe : firstE f.subs = es := by rw [HX.out (by rw [hes]; exact h0), hes]
        rw [hfe, if_pos h0] at hb
        subst hb
        have t5 : (es != 0) = true := by simpa using h0
        clear HJ2 HX hes HB hfe h0
        generalize ((sb.1.toNat : Nat) : Int) = y at *
        generalize S sb.2 = x at *
        go_wp2_with fail
        refine cR.out.mono ?_
        rintro e w5 ⟨rfl, c⟩
        have b5 := b1.trans ((hba.trans (c.mono hba.size)).mono b1.size)
        go_wp2
        go_ret
        exact ⟨rfl, b5⟩
    · obtain rfl : k = n := by omega
      have hb := HB.out
      rw [firstE_miss f.subs (fun j hj => HJ.out j (by rw [HN.out] at hj; exact hj)), if_neg (fun h => h rfl)] at hb
      have b5 := b1.trans (hbw.mono b1.size)
      clear HB HJ hbw
      generalize f.auth = au at *
      by_cases h1 : au < 0
      · rw [if_pos (Or.inl h1)] at hb
        subst hb
        have d1 : decide (au < 0) = true := decide_eq_true h1
        clear h1
        go_wp2
        go_ret
        exact ⟨rfl, b5⟩
      · have d1 : decide (au < 0) = false := decide_eq_false h1
        by_cases h2 : 9999 < au
        · rw [if_pos (Or.inr h2)] at hb
          subst hb
          have d2 : decide (9999 < au) = true := decide_eq_true h2
          clear h1 h2
          go_wp2
          go_ret
          exact ⟨rfl, b5⟩
        · rw [if_neg (fun h => h.elim h1 h2)] at hb
          subst hb
          have d2 : decide (9999 < au) = false := decide_eq_false h2
          clear h1 h2
          go_wp2
          go_ret
          exact ⟨rfl, b5⟩
end

section
open Go.RowKit Go.PlainAid
/-- All that lay in w lies still. -/
def Sees (w w' : World) : Prop := Below w.heap.size w w'
theorem Sees.self (w : World) : Sees w w := Below.refl _ _
theorem Sees.after {w w1 w2 : World} (h : Sees w w1) (hb : Below w1.heap.size w1 w2) : Sees w w2 := Below.trans h (hb.mono h.size)
theorem Sees_drew (w w' : World) : Sees w w'.drew ↔ Sees w w' :=
  ⟨fun h => ⟨h.os, h.tape, h.output, h.size, h.block⟩, fun h => ⟨h.os, h.tape, h.output, h.size, h.block⟩⟩

/-- The mark of a byte, as a text. -/
def MF (y : Int) : ByteArray := S (markB (UInt8.ofNat y.toNat))
theorem MF_at (l : List UInt8) (i : Nat) : MF (bt (S l) i) = S (markB (l.getD i 0)) := by
  unfold MF
  rw [bt_S, Int.toNat_natCast, UInt8.ofNat_toNat]
theorem MF_size (y : Int) : (MF y).size = 1 := by
  unfold MF markB
  rw [S_size]
  split <;> simp

theorem bt_nat (s : ByteArray) (i : Nat) : bt s i = ((UInt8.ofNat (bt s i).toNat).toNat : Int) := by
  have h := bt_S s.data.toList i
  rw [S_of] at h
  rw [h, Int.toNat_natCast, UInt8.ofNat_toNat]
end

section
open Go.RowKit Go.PlainAid
/-- A builder of this call, with these bytes. -/
def PB (B b : Nat) (l : List UInt8) (w : World) : Prop := IsB B b (Lib.byteCells l) w
theorem ownF_after {w w' : World} {B e size n : Nat} {v : Value} {xs : List Value} (h : w.ownsRowF B e size v n xs) (hb : Below w.heap.size w w') : w'.ownsRowF B e size v n xs := by
  refine ⟨h.1, ?_⟩
  rcases h.2 with hn | ⟨g, cap, cur, fz, hv, hB', hg, rest⟩
  · exact .inl hn
  · have hlt : g < w.heap.size := (Array.getElem?_eq_some_iff.1 hg).1
    exact .inr ⟨g, cap, cur, fz, hv, hB', (hb.block g hlt).trans hg, rest⟩
theorem BAF_after {B b : Nat} {p : Value} {bs : List Value} {w w' : World} (h : Lib.BuilderAtF 87 5 B b p bs w) (hb : Below w.heap.size w w') : Lib.BuilderAtF 87 5 B b p bs w' := by
  have hlt := h.lt
  obtain ⟨hB, v, hbk, hown, hne⟩ := h
  exact ⟨hB, v, (hb.block b hlt).trans hbk, ownF_after hown hb, hne⟩
theorem PB.after {B b : Nat} {l : List UInt8} {w w' : World} (h : PB B b l w) (hb : Below w.heap.size w w') : PB B b l w' := h.elim (fun x => .inl (BAF_after x hb)) (fun x => .inr (BAF_after x hb))
theorem PB.alloc {B b : Nat} {l : List UInt8} {w : World} (h : PB B b l w) (o : Obj) : PB B b l (w.alloc o) := Lib.IsBuilderF.alloc h o
theorem PB.lt {B b : Nat} {l : List UInt8} {w : World} (h : PB B b l w) : b < w.heap.size := h.elim (fun x => x.lt) (fun x => x.lt)
theorem bytes_append (a b : List UInt8) : Lib.byteCells a ++ Lib.strCells (S b) = Lib.byteCells (a ++ b) := by
  show Lib.byteCells a ++ Lib.byteCells b = _
  simp [Lib.byteCells]
theorem bytes_length (a : List UInt8) : (Lib.byteCells a).length = a.length := by simp [Lib.byteCells]
theorem pbStr (B b : Nat) (l x : List UInt8) (w : World) (h : PB B b l w) (hl : l.length + x.length ≤ 100000000) (hB : B ≤ w.heap.size) :
    Calls Tryz.prog 56 #[.pointer (some ⟨b, 0, none⟩), .string (S x)] w fun e w' => (∃ v, e = .returned v) ∧ PB B b (l ++ x) w' ∧ Below B w w' ∧ Kept b w w' :=
  (writeString_any B b (Lib.byteCells l) (S x) w h (by rw [bytes_length, S_size]; omega) hB).mono fun e w' hh => by
    obtain ⟨he, h1, h2, h3⟩ := hh
    refine ⟨⟨_, he⟩, ?_, h2, h3⟩
    rw [bytes_append] at h1
    exact .inr h1
theorem pbByte (B b : Nat) (l : List UInt8) (x : UInt8) (w : World) (h : PB B b l w) (hl : l.length ≤ 100000000) (hB : B ≤ w.heap.size) :
    Calls Tryz.prog 59 #[.pointer (some ⟨b, 0, none⟩), .int .u8 (x.toNat : Int)] w fun e w' => (∃ v, e = .returned v) ∧ PB B b (l ++ [x]) w' ∧ Below B w w' ∧ Kept b w w' :=
  (writeByte_any B b (Lib.byteCells l) (x.toNat : Int) w h (by rw [bytes_length]; omega) hB).mono fun e w' hh => by
    obtain ⟨he, h1, h2, h3⟩ := hh
    refine ⟨⟨_, he⟩, ?_, h2, h3⟩
    have e1 : Lib.byteCells l ++ [.int .u8 (x.toNat : Int)] = Lib.byteCells (l ++ [x]) := by simp [Lib.byteCells]
    rw [e1] at h1
    exact .inr h1
theorem pbOut (B b : Nat) (l : List UInt8) (w : World) (h : PB B b l w) (hB : B ≤ w.heap.size) :
    Calls Tryz.prog 60 #[.pointer (some ⟨b, 0, none⟩)] w fun e w' => e = .returned (.string (S l)) ∧ Below B w w' :=
  (Tryz.Builder_String_any_k B b l w h hB).mono fun _ _ hh => ⟨hh.1, hh.2.2.1⟩
theorem Kept.box {b k : Nat} {cs : Array Value} {w w' : World} (h : Kept b w w') (hk : w.heap[k]? = some (.cells cs 48 (0, 0))) (hne : k ≠ b) : w'.heap[k]? = some (.cells cs 48 (0, 0)) :=
  h k _ hk (fun e => hne (Option.some.inj e)) (fun c fz e => by
    simp only [Obj.cells.injEq] at e
    exact absurd e.2.1 (by decide))
theorem sub_mark2 (l : List UInt8) (h : l.length = 2) : subL 32 [35] l = markB (l.getD 0 0) ++ markB (l.getD 1 0) := by
  match l, h with
  | [a, b], _ => exact sub_mark a b
theorem mark_le (c : UInt8) : (markB c).length ≤ 1 := by
  unfold markB
  split <;> simp
theorem auth_form (n : Nat) : authP (n : Int) = if n = 0 then [] else 64 :: Lib.decDigits n := by
  unfold authP
  rw [Int.toNat_natCast]
  by_cases h : n = 0
  · rw [if_pos (by omega), if_pos h]
  · have hp := dec_pos n
    rw [if_neg (by omega), if_neg h]
    unfold padL
    rw [show 1 - (Lib.decDigits n).length = 0 by omega]
    rfl

set_option maxHeartbeats 16000000 in
set_option maxRecDepth 100000 in
theorem fPrint_ok (f : Fld) (u : Value) (w : World) (hE : Env w) (hu : QL u f.subs w) (h : rightI f = 0) :
    Calls Tryz.prog 27 #[FV f u] w fun e w' => e = .returned (.tuple #[.string (S (lineL f)), .int .i64 0]) ∧ Below w.heap.size w w' := by
  obtain ⟨htag, hind, hn1, hn16, hsub, ha0, ha1⟩ := right_facts f h
  have h200 : ∀ i, i < f.subs.length → (f.subs.getD i sub0).2.length ≤ 200 := fun i hi => (subE_zero _ (hsub i hi)).2.2.2
  have h3 := tagB_len _ htag
  have h2 := indsB_len _ hind
  have b0 : Below w.heap.size w (w.alloc (.cells #[.string (S f.tag), .string (S f.ind), u, .int .i64 f.auth] 24)) := (Below.refl w.heap.size w).alloc (Nat.le_refl _) _
  have cR := Lib.hid (fRight_any f u _ (hE.after b0) (hu.after b0) (fun i hi => by have := h200 i hi; omega) 0 h)
  obtain ⟨a, cap, rfl, hcap, hmax, _, hcell⟩ := hu
  unfold maxLen at hmax
  unfold FV at cR ⊢
  obtain ⟨n, hn⟩ : ∃ n, f.subs.length = n := ⟨_, rfl⟩
  have HCell := Lib.hid hcell
  have H200 := Lib.hid h200
  have hbl := Lib.hid (fun k => bodyL_le (f.subs.take k) (fun i hi => by
    rw [List.length_take] at hi
    have := h200 i (by omega)
    rwa [List.getD_eq_getElem?_getD, List.getElem?_take_of_lt (by omega), ← List.getD_eq_getElem?_getD]))
  rw [hn] at hcap hn16 cR b0 ⊢
  have HN := Lib.hid hn
  obtain ⟨W0, hW0⟩ : ∃ W0, w.alloc (.cells #[.string (S f.tag), .string (S f.ind), .slice a n cap, .int .i64 f.auth] 24) = W0 := ⟨_, rfl⟩
  rw [hW0] at b0 cR
  have hlt : w.heap.size < W0.heap.size := by rw [← hW0]; simp
  have k0 : W0.cell? ⟨w.heap.size, 0, none⟩ = some (.string (S f.tag)) := by rw [← hW0]; simp
  have k1 : W0.cell? ⟨w.heap.size, 1, none⟩ = some (.string (S f.ind)) := by rw [← hW0]; simp
  have k2 : W0.cell? ⟨w.heap.size, 2, none⟩ = some (.slice a n cap) := by rw [← hW0]; simp
  have k3 : W0.cell? ⟨w.heap.size, 3, none⟩ = some (.int .i64 f.auth) := by rw [← hW0]; simp
  have HE0 := Lib.hid (hE.after b0)
  have HW0 := Lib.hid hW0
  clear hcell h200 hn hsub h htag hind hW0 hE hn1
  obtain ⟨au, hau⟩ : ∃ k : Nat, f.auth = (k : Int) := ⟨f.auth.toNat, by omega⟩
  have HLine : RowKit.Hid (lineL f = (f.tag ++ authP f.auth) ++ (32 :: (subL 32 [35] f.ind ++ [32])) ++ bodyL f.subs) := by
    unfold RowKit.Hid lineL headL
    rw [sub_mark2 f.ind h2]
  have hil : (subL 32 [35] f.ind).length ≤ 2 := by
    rw [sub_mark2 f.ind h2, List.length_append]
    have m1 := mark_le (f.ind.getD 0 0)
    have m2 := mark_le (f.ind.getD 1 0)
    omega
  rw [hau] at k3 cR HW0 HLine ⊢
  have hau2 : au ≤ 9999 := by omega
  have hdl : (Lib.decDigits au).length ≤ 100000 := by
    have := dec_bound au
    omega
  have hapl : (authP (au : Int)).length ≤ 100001 := by
    rw [auth_form]
    split
    · simp
    · rw [List.length_cons]; omega
  have HAF := Lib.hid (auth_form au)
  have cI := Lib.hid (fun W hE => cItoa au (by omega) W hE)
  have cM := Lib.hid (fun W hE => cMark f.ind (by omega) W hE)
  clear hau ha0 ha1 h2
  obtain ⟨AP, hAP⟩ : ∃ AP, authP (au : Int) = AP := ⟨_, rfl⟩
  rw [hAP] at HLine HAF hapl
  obtain ⟨DD, hDD⟩ : ∃ DD, Lib.decDigits au = DD := ⟨_, rfl⟩
  rw [hDD] at HAF hdl cI
  obtain ⟨IM, hIM⟩ : ∃ IM, subL 32 [35] f.ind = IM := ⟨_, rfl⟩
  rw [hIM] at HLine hil cM
  clear hAP hDD hIM
  have hid := S_size IM
  have hdd := S_size DD
  have HAT := Lib.hid (S_append [64] DD)
  have HI1 := Lib.hid (S_append [32] IM)
  have HI2 := Lib.hid (S_append (32 :: IM) [32])
  go_enter Tryz.func27, Tryz.ntmps27
  go_wp2_with fail
  rw [HW0.out]
  refine (cR.out).mono ?_
  rintro e w1 ⟨rfl, b1⟩
  have j0 := (b1.cell (p := ⟨w.heap.size, 0, none⟩) hlt).trans k0
  have j1 := (b1.cell (p := ⟨w.heap.size, 1, none⟩) hlt).trans k1
  have j2 := (b1.cell (p := ⟨w.heap.size, 2, none⟩) hlt).trans k2
  have j3 := (b1.cell (p := ⟨w.heap.size, 3, none⟩) hlt).trans k3
  have hlt1 : w.heap.size < w1.heap.size := Nat.lt_of_lt_of_le hlt b1.size
  have B1 := Lib.hid (b0.trans (b1.mono b0.size))
  have HE1 := Lib.hid (HE0.out.after b1)
  clear k0 k1 k2 k3 b1 b0 HE0 cR
  have hpb : PB w1.heap.size w1.heap.size [] (w1.alloc (.cells #[.pointer none, .slice none 0 0] 87)) := Lib.IsBuilderF.of (Lib.fresh_isBuilder _ _ w1)
  have hba := (Below.refl w1.heap.size w1).alloc (Nat.le_refl _) (.cells #[.pointer none, .slice none 0 0] 87)
  have cS1 := Lib.hid (pbStr _ _ [] f.tag _ hpb (by rw [h3]; simp) hba.size)
  rw [List.nil_append] at cS1
  have Hba := Lib.hid hba
  have sba := hba.size
  clear hpb hba
  go_wp2_with fail
  refine cS1.out.mono ?_
  rintro e w2 ⟨⟨ev, rfl⟩, h2, b2, _⟩
  have B2 := Lib.hid (Hba.out.trans b2)
  have P2 := Lib.hid h2
  have s2 := Nat.le_trans sba b2.size
  have x0 := (B2.out.cell (p := ⟨w.heap.size, 0, none⟩) hlt1).trans j0
  have x1 := (B2.out.cell (p := ⟨w.heap.size, 1, none⟩) hlt1).trans j1
  have x2 := (B2.out.cell (p := ⟨w.heap.size, 2, none⟩) hlt1).trans j2
  have x3 := (B2.out.cell (p := ⟨w.heap.size, 3, none⟩) hlt1).trans j3
  clear h2 b2 Hba cS1
  go_upto_if 18 with fail
  go_cut [18] from 19 to 23 (fun q wx => (∃ x, q = .bool x) ∧ PB w1.heap.size w1.heap.size (f.tag ++ AP) wx ∧ Below w1.heap.size w1 wx)
  case first =>
    by_cases h0 : au = 0
    · have t0 : ((au : Int) != 0) = false := by rw [h0]; rfl
      have hp := P2.out
      have ha := HAF.out
      rw [if_pos h0] at ha
      rw [← List.append_nil f.tag, ← ha] at hp
      have Hp := Lib.hid hp
      clear h0 hp ha cI
      go_wp2
      go_meet
      exact ⟨⟨_, rfl⟩, Hp.out, B2.out⟩
    · have t0 : ((au : Int) != 0) = true := by simp; omega
      have ha := HAF.out
      rw [if_neg h0] at ha
      have HA := Lib.hid ha
      have cI2 := Lib.hid (cI.out w2 (HE1.out.after B2.out))
      clear h0 ha cI
      go_wp2_with fail
      refine cI2.out.mono ?_
      rintro e w3 ⟨rfl, b3⟩
      have P3 := Lib.hid (P2.out.after b3)
      have B3 := Lib.hid (B2.out.trans (b3.mono s2))
      have s3 := Nat.le_trans s2 b3.size
      have cS2 := Lib.hid (pbStr _ _ f.tag AP _ P3.out (by rw [h3]; omega) s3)
      rw [HA.out] at cS2
      rw [show S (64 :: DD) = ⟨#[64]⟩ ++ S DD from HAT.out.symm] at cS2
      clear b3
      have hsz1 : (⟨#[64]⟩ : ByteArray).size = 1 := rfl
      go_wp2_with fail
      refine cS2.out.mono ?_
      rintro e w4 ⟨⟨ev4, rfl⟩, h4, b4, _⟩
      have P4 := Lib.hid h4
      have B4 := Lib.hid (B3.out.trans b4)
      clear h4 b4
      go_wp2
      go_meet
      exact ⟨⟨_, rfl⟩, by rw [HA.out]; exact P4.out, B4.out⟩
  case rest =>
    obtain ⟨⟨q, rfl⟩, hp, hb⟩ := hcut
    clear x0 x1 x2 x3 P2 B2 s2 cI HAF
    have y1 := (hb.cell (p := ⟨w.heap.size, 1, none⟩) hlt1).trans j1
    have y2 := (hb.cell (p := ⟨w.heap.size, 2, none⟩) hlt1).trans j2
    have cM2 := Lib.hid (cM.out wc (HE1.out.after hb))
    have P3 := Lib.hid hp
    have B3 := Lib.hid hb
    have s3 := hb.size
    clear hp hb cM
    go_wp2_with fail
    refine cM2.out.mono ?_
    rintro e w4 ⟨rfl, b4⟩
    have P4 := Lib.hid (P3.out.after b4)
    have B4 := Lib.hid (B3.out.trans (b4.mono s3))
    have s4 := Nat.le_trans s3 b4.size
    have cS := Lib.hid (pbStr _ _ (f.tag ++ AP) (32 :: IM ++ [32]) _ P4.out (by simp only [List.length_append, List.length_cons, List.length_nil]; omega) s4)
    rw [show S (32 :: IM ++ [32]) = ⟨#[32]⟩ ++ S IM ++ ⟨#[32]⟩ by rw [← HI2.out]; exact congrArg (· ++ (⟨#[32]⟩ : ByteArray)) HI1.out.symm] at cS
    have z2 := (B4.out.cell (p := ⟨w.heap.size, 2, none⟩) hlt1).trans j2
    have e1 : (⟨#[32]⟩ : ByteArray).size = 1 := rfl
    have e2 : (⟨#[32]⟩ ++ S IM : ByteArray).size = 1 + IM.length := by rw [ByteArray.size_append, e1, hid]
    clear b4 cM2 P3 B3 s3 y1 y2
    go_wp2_with fail
    refine cS.out.mono ?_
    rintro e w5 ⟨⟨ev5, rfl⟩, h5, b5, _⟩
    have P5 := Lib.hid h5
    have B5 := Lib.hid (B4.out.trans b5)
    have s5 := Nat.le_trans s4 b5.size
    have v2 := (B5.out.cell (p := ⟨w.heap.size, 2, none⟩) hlt1).trans j2
    clear h5 b5 cS P4 B4 s4 z2 e1 e2 j0 j1 j3
    obtain ⟨HD, hHD⟩ : ∃ HD, f.tag ++ AP ++ (32 :: IM ++ [32]) = HD := ⟨_, rfl⟩
    have hHDl : HD.length ≤ 200000 := by rw [← hHD]; simp only [List.length_append, List.length_cons, List.length_nil]; omega
    rw [hHD] at P5
    have hL : RowKit.Hid (lineL f = HD ++ bodyL f.subs) := by
      unfold RowKit.Hid
      rw [HLine.out, ← hHD]
      rfl
    clear hHD HLine hil hdl hapl hid hdd HAT HI1 HI2 hau2 h3
    go_wp2
    go_loopw [33] (fun i wr => ∃ k : Nat, k ≤ n ∧ i = .int .i64 (k : Int) ∧ PB w1.heap.size w1.heap.size (HD ++ bodyL (f.subs.take k)) wr ∧ Below w1.heap.size w1 wr) (fun i _ => n - (intOf i).toNat)
    case atStart => exact ⟨0, Nat.zero_le _, rfl, by rw [List.take_zero]; show PB _ _ (HD ++ []) _; rw [List.append_nil]; exact P5.out, B5.out⟩
    case round =>
      obtain ⟨k, hk, rfl, hp, hb⟩ := hrel
      have hsz := hb.size
      by_cases hkn : k < n
      · obtain ⟨g, o, rfl, hg, c1, c2⟩ := HCell.out k (by rw [HN.out]; exact hkn)
        have hg1 : g < w1.heap.size := Nat.lt_of_lt_of_le hg B1.out.size
        have c1 : wr.cell? ⟨g, o + k * 2, none⟩ = some (.int .u8 ((f.subs.getD k sub0).1.toNat : Int)) := ((hb.cell (p := ⟨g, o + k * 2, none⟩) hg1).trans (B1.out.cell (p := ⟨g, o + k * 2, none⟩) hg)).trans c1
        have c2 : wr.cell? ⟨g, o + k * 2 + 1, none⟩ = some (.string (S (f.subs.getD k sub0).2)) := ((hb.cell (p := ⟨g, o + k * 2 + 1, none⟩) hg1).trans (B1.out.cell (p := ⟨g, o + k * 2 + 1, none⟩) hg)).trans c2
        have i1 : (0 : Int) ≤ (k : Int) := by omega
        have i2 : (k : Int) < (n : Int) := by omega
        have hval := H200.out k (by rw [HN.out]; exact hkn)
        have hacc := hbl.out k
        have hacl : (HD ++ bodyL (f.subs.take k)).length ≤ 300000 := by
          rw [List.length_take] at hacc
          rw [List.length_append]
          have : 402 * min k f.subs.length ≤ 402 * 16 := Nat.mul_le_mul_left _ (by omega)
          omega
        have hsn := bodyL_snoc f.subs k (by rw [HN.out]; exact hkn)
        obtain ⟨sb, hsb⟩ : ∃ z, f.subs.getD k sub0 = z := ⟨_, rfl⟩
        rw [hsb] at c1 c2 hval hsn
        have hdl2 := dblL_le sb.2
        have HS : RowKit.Hid (HD ++ bodyL (f.subs.take (k + 1)) = HD ++ bodyL (f.subs.take k) ++ [36] ++ [sb.1] ++ dblL sb.2) := by
          unfold RowKit.Hid
          rw [hsn]
          unfold subP
          simp
        generalize HD ++ bodyL (f.subs.take k) = acc at hp hacl HS
        have hbx := heap_alloc_new wr (.cells #[.int .u8 (sb.1.toNat : Int), .string (S sb.2)] 48)
        have ha := hb.alloc hsz (.cells #[.int .u8 (sb.1.toNat : Int), .string (S sb.2)] 48)
        have cS6 := Lib.hid (pbStr _ _ acc [36] _ (hp.alloc (.cells #[.int .u8 (sb.1.toNat : Int), .string (S sb.2)] 48)) (by simp only [List.length_cons, List.length_nil]; omega) ha.size)
        have hnb : wr.heap.size ≠ w1.heap.size := Nat.ne_of_gt hp.lt
        have HBX := Lib.hid hbx
        have HA := Lib.hid ha
        have HE1w := Lib.hid (fun W (h : Below w1.heap.size w1 W) => HE1.out.after h)
        have cDb := Lib.hid (fun W hE => cDouble sb.2 (by omega) W hE)
        clear hsb hbx ha hp hb hsn hacc
        obtain ⟨cy, hcy⟩ : ∃ cy, ((sb.1.toNat : Nat) : Int) = cy := ⟨_, rfl⟩
        obtain ⟨x, hx⟩ : ∃ x, S sb.2 = x := ⟨_, rfl⟩
        have cB := Lib.hid (fun W l h hl hB => pbByte w1.heap.size w1.heap.size l sb.1 W h hl hB)
        rw [hcy, hx] at HBX HA cS6
        rw [hcy] at c1 cB
        rw [hx] at c2 cDb
        clear hcy hx
        go_wp2_with fail
        refine cS6.out.mono ?_
        rintro e w6 ⟨⟨ev6, rfl⟩, h6, b6, kp6⟩
        have B6 := Lib.hid (HA.out.trans b6)
        have s6 := Nat.le_trans HA.out.size b6.size
        have X6 := Lib.hid (kp6.box HBX.out hnb)
        have m0 : w6.cell? ⟨wr.heap.size, 0, none⟩ = some (.int .u8 cy) := by rw [Lib.cell_of_heap X6.out]; rfl
        have m1 : w6.cell? ⟨wr.heap.size, 1, none⟩ = some (.string x) := by rw [Lib.cell_of_heap X6.out]; rfl
        have cS7 := Lib.hid (cB.out _ _ h6 (by rw [List.length_append, List.length_cons, List.length_nil]; omega) s6)
        clear h6 b6 kp6 HBX cS6 HA c1 c2
        go_wp2_with fail
        refine cS7.out.mono ?_
        rintro e w7 ⟨⟨ev7, rfl⟩, h7, b7, kp7⟩
        have B7 := Lib.hid (B6.out.trans b7)
        have s7 := Nat.le_trans s6 b7.size
        have X7 := Lib.hid (kp7.box X6.out hnb)
        have P7 := Lib.hid h7
        have n1 : w7.cell? ⟨wr.heap.size, 1, none⟩ = some (.string x) := by rw [Lib.cell_of_heap X7.out]; rfl
        have cD7 := Lib.hid (cDb.out w7 (HE1w.out _ B7.out))
        clear h7 b7 kp7 B6 X6 m0 m1 cS7 s6 cDb X7
        go_wp2_with fail
        refine cD7.out.mono ?_
        rintro e w8 ⟨rfl, b8⟩
        have P8 := P7.out.after b8
        have B8 := Lib.hid (B7.out.trans (b8.mono s7))
        have s8 := Nat.le_trans s7 b8.size
        have cS9 := Lib.hid (pbStr _ _ _ (dblL sb.2) _ P8 (by simp only [List.length_append, List.length_cons, List.length_nil]; omega) s8)
        clear b8 P8 P7 B7 s7 n1 cD7
        go_wp2_with fail
        refine cS9.out.mono ?_
        rintro e w9 ⟨⟨ev9, rfl⟩, h9, b9, _⟩
        have B9 := Lib.hid (B8.out.trans b9)
        have P9 := Lib.hid h9
        clear h9 b9 cS9 B8 s8
        go_wp2
        go_roundw
        case rel => exact ⟨k + 1, by omega, by go_num, by rw [HS.out]; exact P9.out, B9.out⟩
        case measure => simp [intOf]; omega
      · obtain rfl : k = n := by omega
        rw [show f.subs.take k = f.subs by rw [← HN.out, List.take_length], ← hL.out] at hp
        have cO := Lib.hid (pbOut _ _ _ _ hp hsz)
        have B8 := Lib.hid hb
        clear hp hb
        go_wp2_with fail
        refine cO.out.mono ?_
        rintro e w9 ⟨rfl, b9⟩
        have b10 := B1.out.trans ((B8.out.trans b9).mono B1.out.size)
        clear b9 B8 cO
        go_wp2
        go_ret2
        exact ⟨rfl, b10⟩

set_option maxHeartbeats 8000000 in
theorem fPrint_any (f : Fld) (u : Value) (w : World) (hE : Env w) (hu : QL u f.subs w) (hz : ∀ i, i < f.subs.length → (f.subs.getD i sub0).2.length ≤ 1000000) (r : List UInt8) (er : Int) (h : printR f = (r, er)) :
    Calls Tryz.prog 27 #[FV f u] w fun e w' => e = .returned (.tuple #[.string (S r), .int .i64 er]) ∧ Below w.heap.size w w' := by
  unfold printR at h
  by_cases h0 : rightI f = 0
  · rw [if_pos h0] at h
    simp only [Prod.mk.injEq] at h
    obtain ⟨rfl, rfl⟩ := h
    exact fPrint_ok f u w hE hu h0
  · rw [if_neg h0] at h
    simp only [Prod.mk.injEq] at h
    obtain ⟨rfl, her⟩ := h
    rw [her] at h0
    have b0 : Below w.heap.size w (w.alloc (.cells #[.string (S f.tag), .string (S f.ind), u, .int .i64 f.auth] 24)) := (Below.refl w.heap.size w).alloc (Nat.le_refl _) _
    have cR := Lib.hid (fRight_any f u _ (hE.after b0) (hu.after b0) hz er her)
    have t0 : (er != 0) = true := by simpa using h0
    have HB0 := Lib.hid b0
    obtain ⟨a, cap, rfl, _, _⟩ := hu.length
    unfold FV at cR ⊢
    generalize f.subs.length = n at *
    clear hz h0 her b0 hu
    go_enter Tryz.func27, Tryz.ntmps27
    go_wp2_with fail
    refine (cR.out).mono ?_
    rintro e w1 ⟨rfl, b1⟩
    have b2 := HB0.out.trans (b1.mono HB0.out.size)
    clear b1
    go_wp2
    go_ret2
    exact ⟨rfl, b2⟩
end

end Go.Proofs.YthjdopnoophigaaGreatDoor

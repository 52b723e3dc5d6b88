/- Merged: KK15. -/
import Derived.Test.YtfjfpefpdlecbaaGreatDoorQ33
import Derived.Test.YtfjfpefpdlecbaaGreatDoorQ34
namespace Go.Proofs.YtfjfpefpdlecbaaGreatDoor

section
open Go.RowKit Go.PlainAid
/-- A row of hits of the call's own. -/
def HN (B : Nat) (v : Value) (M : List (Int × Int)) (w : World) : Prop := w.ownsRow B 82 2 v M.length (cellsH15 M)
theorem HN.nil (B : Nat) (w : World) : HN B (.slice none 0 0) [] w := World.ownsRow_nil _ _ _ _
theorem HN.after {B : Nat} {v : Value} {M : List (Int × Int)} {w w' : World} (h : HN B v M w) (hb : Below w.heap.size w w') : HN B v M w' := own_same h fun i _ hi => hb.block i hi
theorem infoHit15 : (Tryz.prog.info? 82).map (fun i => (i.zero, i.size, i.bytes)) = some (some (.agg #[.int .i64 0, .int .i64 0]), 2, 16) := by kernel_rfl
/-- append of one hit that has just been laid to such a row. -/
theorem append_hn {ops : Array Oper} {rest : List Oper} {o : Oper} {a : Act} {Q : Exit → Act → World → Prop} (w : World) (hgd : o.guard = none) (s x : Operand)
    (ho : o.op = .call { callee := .builtin .append, args := #[s, x], argTypes := #[78, 78] })
    (B : Nat) (v : Value) (M : List (Int × Int)) (p : Int × Int) (hs : a.eval s = v) (h : HN B v M w) (hx : a.eval x = .slice (some ⟨w.heap.size, 0, none⟩) 1 1) (hz : M.length ≤ 1000000) (hB : B ≤ w.heap.size)
    (N : Nat) (W1 : World) (hNB : N ≤ B) (hb : Below N W1 w)
    (hk : ∀ v' w', HN B v' (M ++ [p]) w' → Below N W1 w' → B ≤ w'.heap.size → wpList Tryz.prog ops Q rest (a.put o.dst v') w') : wpList Tryz.prog ops Q (o :: rest) a (w.alloc (.cells #[.int .i64 p.2, .int .i64 p.1] 82)) := by
  obtain ⟨i0, h0, h2⟩ := Option.map_eq_some_iff.1 infoHit15
  simp only [Prod.mk.injEq] at h2
  have hrow := World.ownsRow.alloc h (.cells #[.int .i64 p.2, .int .i64 p.1] 82)
  refine wpList_append_own _ hgd s x 78 ho B 82 i0 (.agg #[.int .i64 0, .int .i64 0]) 2 16 Tryz.underlying78 h0 h2.1 h2.2.1 h2.2.2 rfl (by decide) v M.length _ hs hrow ⟨w.heap.size, 0, none⟩ 1 1 [.int .i64 p.2, .int .i64 p.1] hx rfl (cells_two w _ _ _) (by intro u hu; simp at hu; rcases hu with h5 | h5 <;> subst h5 <;> rfl) (by unfold maxLen; omega) (by omega) (by simp; omega) ?_
  intro v2 w2 hown2 hg2 hn2
  refine hk v2 w2 (by unfold HN; rw [List.length_append, cellsH15_snoc]; exact hown2) ?_ (Nat.le_trans (by simp; omega) hg2.size)
  exact (hb.alloc (by omega) _).grown hg2 (by simp; omega) (fun j hj => Nat.le_trans hNB (hrow.lt j hj).1)
theorem hits_snoc (m : MRule) (l : List Rec) (r : Rec) (i : Nat) (h : i < l.length) : hitsM m (l.take (i + 1)) r = hitsM m (l.take i) r ++ if (l.getD i rec0).id ≠ r.id ∧ m.need ≤ scoreM m r (l.getD i rec0) then [(scoreM m r (l.getD i rec0), (l.getD i rec0).id)] else [] := by
  have e : l.take (i + 1) = l.take i ++ [l.getD i rec0] := by
    rw [List.take_succ_eq_append_getElem h, List.getD_eq_getElem?_getD, List.getElem?_eq_getElem h]
    rfl
  unfold hitsM
  rw [e, List.filter_append, List.map_append]
  congr 1
  generalize l.getD i rec0 = x
  rw [scoreM_comm m r x]
  by_cases h1 : x.id ≠ r.id ∧ m.need ≤ scoreM m x r
  · rw [if_pos h1]
    simp [h1.1, h1.2]
  · rw [if_neg h1]
    by_cases h2 : x.id = r.id
    · simp [h2]
    · have h3 : ¬ m.need ≤ scoreM m x r := fun g => h1 ⟨h2, g⟩
      simp [h2, h3]
theorem hits_len (m : MRule) (l : List Rec) (r : Rec) : (hitsM m l r).length ≤ l.length := by
  unfold hitsM
  rw [List.length_map]
  exact List.length_filter_le _ _
theorem take_snoc15 (M : List (Int × Int)) (j : Nat) (x : Int × Int) (h : M[j]? = some x) : (M.take (j + 1)).map (·.2) = (M.take j).map (·.2) ++ [x.2] := by
  obtain ⟨hj, e⟩ := List.getElem?_eq_some_iff.1 h
  rw [List.take_succ_eq_append_getElem hj, e, List.map_append]
  rfl

set_option maxHeartbeats 32000000 in
set_option maxRecDepth 100000 in
theorem pFind_any (m : MRule) (mv : Value) (l : List Rec) (u : Value) (r : Rec) (ur : Value) (w : World) (hE : Env w) (hm : KL mv m.keys w) (hM : okM m) (hN : okN m) (hu : RL u l w) (ho : ∀ x ∈ l, okR x) (hz : l.length ≤ 8) (hnd : (idsOf l).Nodup) (hr : FL ur r.fields w) (hor : okR r) :
    Calls Tryz.prog 23 #[MV m mv, u, RV r ur] w fun e w' => ∃ v, e = .returned v ∧ IL v (findM m l r) w' ∧ Below w.heap.size w w' := by
  obtain ⟨Q, hQ⟩ : ∃ Q, (fun (e : Ending) (w' : World) => ∃ v, e = .returned v ∧ IL v (findM m l r) w' ∧ Below w.heap.size w w') = Q := ⟨_, rfl⟩
  rw [hQ]
  have HQ : RowKit.Hid (∀ v W, IL v (findM m l r) W → Below w.heap.size w W → Q (.returned v) W) := by
    rw [← hQ]
    exact fun v W h1 h2 => ⟨v, rfl, h1, h2⟩
  obtain ⟨mx, mc, hmv, -, -⟩ : ∃ a cap, mv = .slice a m.keys.length cap ∧ m.keys.length ≤ cap ∧ cap ≤ maxLen := by
    obtain ⟨a, cap, h1, h2, h3, _⟩ := hm
    exact ⟨a, cap, h1, h2, h3⟩
  obtain ⟨ra, rc, hur, -, -⟩ := hr.length
  obtain ⟨ua, uc, huu, -, -⟩ := hu.length
  obtain ⟨W0, hW0⟩ : ∃ W0, (w.alloc (.cells #[mv, .int .i64 m.need] 24)).alloc (.cells #[.int .i64 r.id, .int .i64 r.ver, .int .i64 r.kind, .string (S r.lang), ur] 33) = W0 := ⟨_, rfl⟩
  have b0 : Below w.heap.size w W0 := by rw [← hW0]; exact ((Below.refl w.heap.size w).alloc (Nat.le_refl _) _).alloc (by simp) _
  have hsz0 : W0.heap.size = w.heap.size + 2 := by rw [← hW0]; simp
  have hM0 : W0.heap[w.heap.size]? = some (.cells #[mv, .int .i64 m.need] 24 (0, 0)) := by
    rw [← hW0]
    exact (Below.heap_alloc _ _ _ (by simp)).trans (heap_alloc_new w _)
  have hR0 : W0.heap[w.heap.size + 1]? = some (.cells #[.int .i64 r.id, .int .i64 r.ver, .int .i64 r.kind, .string (S r.lang), ur] 33 (0, 0)) := by
    rw [← hW0]
    have := heap_alloc_new (w.alloc (.cells #[mv, .int .i64 m.need] 24)) (.cells #[.int .i64 r.id, .int .i64 r.ver, .int .i64 r.kind, .string (S r.lang), ur] 33)
    simpa using this
  have HMx := Lib.hid (fun (W : World) (h : Below W0.heap.size W0 W) => (h.block w.heap.size (by omega)).trans hM0)
  have HRx := Lib.hid (fun (W : World) (h : Below W0.heap.size W0 W) => (h.block (w.heap.size + 1) (by omega)).trans hR0)
  have HBw := Lib.hid (fun (W : World) (h : Below W0.heap.size W0 W) => b0.trans (h.mono b0.size))
  have HR0 := Lib.hid (Below.refl W0.heap.size W0)
  have cP := Lib.hid (profileOf_any m mv r ur W0 (hE.after b0) (hm.after b0) hM.len hN (hr.after b0) hor)
  have cL := Lib.hid (fun (W : World) (h : Below w.heap.size w W) => profilesOf_any m mv l u W (hE.after h) (hm.after h) hM.len hN (hu.after h) ho (by omega))
  have cS := Lib.hid (fun (x : Rec) (ia ib : Int) (ka kb : Value) (W : World) (h : Below w.heap.size w W) (h1 : KK ka (profK m r) W) (h2 : KK kb (profK m x) W) => pscore_any m mv r x ia ib ka kb W (hm.after h) hM h1 h2)
  have HSn := Lib.hid (fun i (h : i < l.length) => hits_snoc m l r i h)
  have HSl := Lib.hid (fun i => hits_len m (l.take i) r)
  have HFd := Lib.hid (fun (L : List (Int × Int)) (hp : L.Perm (hitsM m l r)) (hs : L.Pairwise fun a b => decide (cfH b a < 0) = false) => found_sorted m l r hnd L hp (hs.imp fun {a b} h => by rw [← cfH_lt]; exact h))
  have HW0 := Lib.hid hW0
  unfold MV RV PV at *
  subst hmv hur huu
  clear hQ hm hE hu ho hW0 hM0 hR0 b0 hsz0 hN hM hnd hr hor
  generalize m.keys.length = mn at *
  generalize r.fields.length = rn at *
  generalize hnd2 : m.need = need at *
  clear hnd2
  generalize hri : r.id = rid at *
  clear hri
  generalize r.ver = rver at *
  generalize r.kind = rkind at *
  generalize S r.lang = lg at *
  obtain ⟨n, hn⟩ : ∃ n, l.length = n := ⟨_, rfl⟩
  rw [hn] at hz cL HSn ⊢
  have HNn := Lib.hid hn
  clear hn
  go_enter Tryz.func23, Tryz.ntmps23
  go_upto_region 1 with fail
  rw [HW0.out]
  clear HW0
  obtain ⟨m0, m1⟩ := mcells2 (HMx.out W0 HR0.out)
  obtain ⟨r0, r1, r2, r3, r4⟩ := rcells5 (HRx.out W0 HR0.out)
  go_wp2_with fail
  refine cP.out.mono ?_
  rintro e w1 ⟨kv, rfl, hkk, hb1⟩
  have hkk := hkk.here
  obtain ⟨ka, kc, hkv, -, -⟩ := hkk.length
  subst hkv
  obtain ⟨W1, hW1⟩ : ∃ W1, w1.alloc (.cells #[.int .i64 rid, .slice ka (profK m r).length kc] 76) = W1 := ⟨_, rfl⟩
  have hb11 : Below w1.heap.size w1 W1 := by rw [← hW1]; exact (Below.refl _ _).alloc (Nat.le_refl _) _
  have hO : W1.heap[w1.heap.size]? = some (.cells #[.int .i64 rid, .slice ka (profK m r).length kc] 76 (0, 0)) := by rw [← hW1]; exact heap_alloc_new w1 _
  have hlt1 : w1.heap.size < W1.heap.size := by rw [← hW1]; simp
  have hB1 : Below W0.heap.size W0 W1 := hb1.trans (hb11.mono hb1.size)
  have HO := Lib.hid (fun (W : World) (h : Below W1.heap.size W1 W) => (h.block w1.heap.size hlt1).trans hO)
  have HKk := Lib.hid (fun (W : World) (h : Below W1.heap.size W1 W) => (hkk.after hb11).after h)
  have HB1 := Lib.hid hB1
  have HW1 := Lib.hid hW1
  obtain ⟨ob, hob⟩ : ∃ ob, w1.heap.size = ob := ⟨_, rfl⟩
  rw [hob] at HO
  have HOb := Lib.hid hob
  have cL1 := Lib.hid (cL.out W1 (HBw.out W1 hB1))
  clear hkk hb1 hb11 hO hlt1 hB1 hW1 hob cP cL m0 m1 r0 r1 r2 r3 r4
  generalize (profK m r).length = kn at *
  obtain ⟨m0, m1⟩ := mcells2 (HMx.out W1 HB1.out)
  go_upto_region 3 with fail
  rw [HW1.out, HOb.out]
  clear HW1 HOb
  go_wp2_with fail
  refine cL1.out.mono ?_
  rintro e w3 ⟨v3, F, rfl, hF, hPN, hb3⟩
  obtain ⟨fa, fc, fg, rfl, hfc, hfm, hfa, hfx⟩ := hPN.opened
  have hFl : F.length = n := by rw [← HNn.out, ← hF, List.length_map]
  rw [hFl] at hfc hfa ⊢
  unfold maxLen at hfm
  have HB3 := Lib.hid hb3
  have HFx := Lib.hid hfx
  have HR3 := Lib.hid (Below.refl w3.heap.size w3)
  have HFl := Lib.hid hFl
  have HF := Lib.hid hF
  have hfa1 : 0 < n → fa = some ⟨fg, 0, none⟩ := fun h => (hfa h).1
  have HH0 : RowKit.Hid (HN w3.heap.size (.slice none 0 0) (hitsM m (l.take 0) r) w3) := HN.nil _ _
  have HBa := Lib.hid (fun (W : World) (h : Below w3.heap.size w3 W) => show Below W1.heap.size W1 W from HB3.out.trans (h.mono HB3.out.size))
  have HBb := Lib.hid (fun (W : World) (h : Below w3.heap.size w3 W) => show Below W0.heap.size W0 W from HB1.out.trans ((HBa.out W h).mono HB1.out.size))
  clear hF hPN hb3 hfx hFl hfa cL1 m0 m1
  go_wp2
  go_loopw [8, 10, 11, 22] (fun s8 _ _ s22 wr => ∃ i : Nat, s22 = .int .i64 (i : Int) ∧ i ≤ n ∧ RowKit.Hid (HN w3.heap.size s8 (hitsM m (l.take i) r) wr) ∧ RowKit.Hid (Below w3.heap.size w3 wr)) (fun _ _ _ s22 _ => n - (intOf s22).toNat)
  case atStart => exact ⟨0, rfl, Nat.zero_le _, HH0.out, HR3.out⟩
  case round =>
    obtain ⟨i, rfl, hi, HH, HB⟩ := hrel
    clear HH0 HR3
    have i1 : (0 : Int) ≤ (i : Int) := by omega
    by_cases hin : i < n
    · have i2 : (i : Int) < (n : Int) := by omega
      obtain rfl := hfa1 (by omega)
      obtain ⟨ev, x, hei, her⟩ : ∃ (ev : Value) (x : Rec), F[i]? = some (ev, x) ∧ x = l.getD i rec0 := by
        have hlt : i < F.length := by rw [HFl.out]; exact hin
        refine ⟨F[i].1, F[i].2, List.getElem?_eq_getElem hlt, ?_⟩
        have this : (F.map (·.2)).getD i rec0 = l.getD i rec0 := by rw [HF.out]
        rw [← this, List.getD_eq_getElem?_getD, List.getElem?_map, List.getElem?_eq_getElem hlt]
        rfl
      obtain ⟨c0, c1, hk⟩ := HFx.out wr HB.out i (ev, x) hei
      dsimp only at c0 c1 hk
      have hsn := HSn.out i hin
      rw [← her] at hsn
      have hsl : (hitsM m (l.take i) r).length ≤ 8 := by
        have := HSl.out i
        rw [List.length_take] at this
        omega
      obtain ⟨xa, xc, hx, -, -⟩ := hk.length
      obtain ⟨wb, hwb⟩ : ∃ wb, wr.alloc (.cells #[.int .i64 x.id, ev] 76) = wb := ⟨_, rfl⟩
      obtain ⟨bx, hbx⟩ : ∃ bx, wr.heap.size = bx := ⟨_, rfl⟩
      have hXb : wb.heap[bx]? = some (.cells #[.int .i64 x.id, ev] 76 (0, 0)) := by rw [← hwb, ← hbx]; exact heap_alloc_new wr _
      have hbb : Below wr.heap.size wr wb := by rw [← hwb]; exact (Below.refl _ _).alloc (Nat.le_refl _) _
      have hlb : bx < wb.heap.size := by rw [← hwb, ← hbx]; simp
      have HBb2 := Lib.hid (HB.out.trans (hbb.mono HB.out.size))
      have HHb := Lib.hid (HH.out.after hbb)
      have HXb := Lib.hid (fun (W : World) (h : Below wb.heap.size wb W) => (h.block bx hlb).trans hXb)
      have cS1 := Lib.hid (cS.out x rid x.id _ ev wb (HBw.out wb (HBb.out wb HBb2.out)) (HKk.out wb (HBa.out wb HBb2.out)) (hk.after hbb))
      obtain ⟨y0, y1⟩ := mcells2 hXb
      obtain ⟨o0, o1⟩ := mcells2 (HO.out wb (HBa.out wb HBb2.out))
      obtain ⟨m0, m1⟩ := mcells2 (HMx.out wb (HBb.out wb HBb2.out))
      obtain ⟨M, hM⟩ : ∃ M, hitsM m (l.take i) r = M := ⟨_, rfl⟩
      rw [hM] at hsn hsl HHb
      have HSn2 := Lib.hid hsn
      have HSl2 := Lib.hid hsl
      have HWb := Lib.hid hwb
      have HBx := Lib.hid hbx
      subst hx
      clear hei her hk hsn hsl hwb hbx hXb hbb hlb HB HH hM
      obtain ⟨sc, hsc⟩ : ∃ sc, scoreM m r x = sc := ⟨_, rfl⟩
      rw [hsc] at cS1 HSn2
      clear hsc
      generalize (profK m x).length = xn at *
      generalize x.id = xid at *
      go_upto_region 6 with fail
      rw [HWb.out, HBx.out]
      clear HWb HBx c0 c1
      go_wp2_with fail
      refine cS1.out.mono ?_
      rintro e w5 ⟨rfl, hb5⟩
      have HB5 := Lib.hid (HBb2.out.trans (hb5.mono HBb2.out.size))
      have HH5 := Lib.hid (HHb.out.after hb5)
      clear y0 y1 o0 o1 m0 m1
      obtain ⟨y0, y1⟩ := mcells2 (HXb.out w5 hb5)
      obtain ⟨m0, m1⟩ := mcells2 (HMx.out w5 (HBb.out w5 HB5.out))
      obtain ⟨r0, r1, r2, r3, r4⟩ := rcells5 (HRx.out w5 (HBb.out w5 HB5.out))
      clear hb5 HBb2 HHb HXb cS1
      by_cases hid : xid = rid
      · have t1 : (xid != rid) = false := by simpa using hid
        have hs2 := HSn2.out
        rw [if_neg (fun h => h.1 hid), List.append_nil] at hs2
        have HS2 := Lib.hid hs2
        clear hid hs2 HSn2
        go_wp2
        go_roundw
        case rel => exact ⟨i + 1, by go_num, by omega, by rw [HS2.out]; exact HH5.out, HB5.out⟩
        case measure => simp [intOf]; omega
      · have t1 : (xid != rid) = true := by simpa using hid
        by_cases hs : need ≤ sc
        · have t2 : decide (need ≤ sc) = true := decide_eq_true hs
          have hs2 := HSn2.out
          rw [if_pos ⟨hid, hs⟩] at hs2
          have HS2 := Lib.hid hs2
          have hsz5 := HB5.out.size
          clear hid hs hs2 HSn2
          go_wp2_with (at_builtin; refine append_hn _ rfl _ _ rfl w3.heap.size u8 M (sc, xid) rfl HH5.out rfl (by have := HSl2.out; omega) hsz5 w3.heap.size w3 (Nat.le_refl _) HB5.out ?_)
          intro v7 w7 h7 hb7 _
          have HH7 := Lib.hid h7
          have HB7 := Lib.hid hb7
          clear h7 hb7 HH5 HB5 y0 y1 m0 m1 r0 r1 r2 r3 r4
          go_wp2
          go_roundw
          case rel => exact ⟨i + 1, by go_num, by omega, by rw [HS2.out]; exact HH7.out, HB7.out⟩
          case measure => simp [intOf]; omega
        · have t2 : decide (need ≤ sc) = false := decide_eq_false hs
          have hs2 := HSn2.out
          rw [if_neg (fun h => hs h.2), List.append_nil] at hs2
          have HS2 := Lib.hid hs2
          clear hid hs hs2 HSn2
          go_wp2
          go_roundw
          case rel => exact ⟨i + 1, by go_num, by omega, by rw [HS2.out]; exact HH5.out, HB5.out⟩
          case measure => simp [intOf]; omega
    · obtain rfl : i = n := by omega
      have hT : l.take i = l := List.take_of_length_le (by rw [HNn.out]; exact Nat.le_refl _)
      rw [hT] at HH
      have hhl : (hitsM m l r).length ≤ 8 := by
        have := HSl.out i
        rw [hT] at this
        rw [HNn.out] at this
        omega
      have cO := Lib.hid (sortH15_any w3.heap.size u8 (hitsM m l r) wr HH.out (by omega))
      have hown := HH.out.lt
      have HOwn := Lib.hid hown
      clear hT HH hown
      go_wp2_with fail
      refine cO.out.mono ?_
      rintro e w5 ⟨rfl, L', hp, hpw, ⟨ha, hc, hb, rfl, hhc, hhm, hha, hhx⟩, hg⟩
      have hfd := HFd.out L' hp hpw
      have hB5 : Below w3.heap.size w3 w5 := HB.out.grown hg HB.out.size (fun j hj => (HOwn.out j hj).1)
      have hLl : L'.length ≤ 8 := by rw [hp.length_eq]; exact hhl
      have HHx := Lib.hid hhx
      have HB5 := Lib.hid hB5
      have HFd2 := Lib.hid hfd
      have hha1 : 0 < L'.length → ha = some ⟨hb, 0, none⟩ := fun h => (hha h).1
      have HHb2 : RowKit.Hid (0 < L'.length → hb < w5.heap.size) := fun h => (hha h).2
      have HR5 := Lib.hid (Below.refl w5.heap.size w5)
      have HI0 : RowKit.Hid (IR w5.heap.size (.slice none 0 0) ((L'.take 0).map (·.2)) w5) := IR.zero _ _
      unfold maxLen at hhm
      obtain ⟨k, hk⟩ : ∃ k, L'.length = k := ⟨_, rfl⟩
      rw [hk] at hhc hha1 HHb2 hLl ⊢
      have HKl := Lib.hid hk
      clear hp hpw hg hfd hB5 hhx hha hk cO HB HOwn hhl
      go_wp2
      go_loopw [12, 14, 53] (fun s12 _ s53 wr => ∃ j : Nat, s53 = .int .i64 (j : Int) ∧ j ≤ k ∧ RowKit.Hid (IR w5.heap.size s12 ((L'.take j).map (·.2)) wr) ∧ RowKit.Hid (Below w5.heap.size w5 wr)) (fun _ _ s53 _ => k - (intOf s53).toNat)
      case atStart => exact ⟨0, rfl, Nat.zero_le _, HI0.out, HR5.out⟩
      case round =>
        obtain ⟨j, rfl, hj, HI, HBj⟩ := hrel
        clear HI0 HR5
        have j1 : (0 : Int) ≤ (j : Int) := by omega
        by_cases hjk : j < k
        · have j2 : (j : Int) < (k : Int) := by omega
          obtain rfl := hha1 (by omega)
          have hjl : j < L'.length := by rw [HKl.out]; exact hjk
          obtain ⟨y, hy⟩ : ∃ y, L'[j]? = some y := ⟨_, List.getElem?_eq_getElem hjl⟩
          obtain ⟨c0, c1⟩ := HHx.out j y hy
          have hbl := HHb2.out (by omega)
          have c0 := (HBj.out.cell (p := ⟨hb, j * 2, none⟩) hbl).trans c0
          have c1 := (HBj.out.cell (p := ⟨hb, j * 2 + 1, none⟩) hbl).trans c1
          have htk := take_snoc15 L' j y hy
          have hml : ((L'.take j).map (·.2)).length ≤ 8 := by rw [List.length_map, List.length_take]; omega
          obtain ⟨M, hM⟩ : ∃ M, (L'.take j).map (·.2) = M := ⟨_, rfl⟩
          rw [hM] at htk hml HI
          have HTk := Lib.hid htk
          have HMl := Lib.hid hml
          obtain ⟨y1, y2⟩ := y
          dsimp only at c0 c1 htk
          obtain ⟨wb, hwb⟩ : ∃ wb, wr.alloc (.cells #[.int .i64 y2, .int .i64 y1] 82) = wb := ⟨_, rfl⟩
          obtain ⟨bx, hbx⟩ : ∃ bx, wr.heap.size = bx := ⟨_, rfl⟩
          have hXb : wb.heap[bx]? = some (.cells #[.int .i64 y2, .int .i64 y1] 82 (0, 0)) := by rw [← hwb, ← hbx]; exact heap_alloc_new wr _
          have hbb : Below wr.heap.size wr wb := by rw [← hwb]; exact (Below.refl _ _).alloc (Nat.le_refl _) _
          have HBb3 := Lib.hid (HBj.out.trans (hbb.mono HBj.out.size))
          have HIb := Lib.hid (HI.out.after hbb)
          obtain ⟨z0, z1⟩ := mcells2 hXb
          have hszb := HBb3.out.size
          have HWb := Lib.hid hwb
          have HBx := Lib.hid hbx
          clear hy hjl hbl htk hml hM hwb hbx hXb hbb HBj HI
          go_upto_region 15 with fail
          rw [HWb.out, HBx.out]
          clear HWb HBx c0 c1
          go_wp2_with (at_builtin; refine append_ir _ rfl _ _ rfl w5.heap.size u12 M y2 rfl HIb.out rfl (by have := HMl.out; omega) hszb w5.heap.size w5 (Nat.le_refl _) HBb3.out ?_)
          intro v7 w7 h7 hb7 _
          have HI7 := Lib.hid h7
          have HB7 := Lib.hid hb7
          clear h7 hb7 HIb HBb3 z0 z1
          go_wp2
          go_roundw
          case rel => exact ⟨j + 1, by go_num, by omega, by rw [HTk.out]; exact HI7.out, HB7.out⟩
          case measure => simp [intOf]; omega
        · obtain rfl : j = k := by omega
          rw [List.take_of_length_le (by rw [HKl.out]; exact Nat.le_refl _), HFd2.out] at HI
          have HG := Lib.hid (HQ.out u12 wr HI.out.il (HBw.out wr (HBb.out wr (HB5.out.trans (HBj.out.mono HB5.out.size)))))
          clear HI HBj HQ
          go_wp2
          first | exact HG.out | (go_ret; exact HG.out)
end

end Go.Proofs.YtfjfpefpdlecbaaGreatDoor

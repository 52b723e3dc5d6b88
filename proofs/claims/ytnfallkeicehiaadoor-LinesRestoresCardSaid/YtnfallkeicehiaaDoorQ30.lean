/- Merged: Rm11, M11, Al11. -/
import Derived.Test.YtnfallkeicehiaaDoorQ29
import Derived.Test.YtnfallkeicehiaaDoorQ19
import Derived.Test.YtnfallkeicehiaaDoorQ28
import Derived.Test.YtnfallkeicehiaaDoorQ10
namespace Go.Proofs.YtnfallkeicehiaaDoor

section
open Go.RowKit Go.PlainAid
/-- A row beside a reader that is written anew. -/
theorem RB2.up {B b : Nat} {v : Value} {L : List Rec} {w w' : World} (h : RB2 B b v L w) (hu : Up b w w') : RB2 B b v L w' := by
  obtain ⟨us, h1, h2, h3, h4⟩ := h
  refine ⟨us, h1, ⟨h2.1, ?_⟩, h3, fun i hi => (h4 i hi).on hu.size (fun j hj hk _ => hu.block j hk (by omega))⟩
  rcases h2.2 with hn | ⟨g, cap, cur, hv, hB', hg, rest⟩
  · exact .inl hn
  · exact .inr ⟨g, cap, cur, hv, hB', (hu.block g (Array.getElem?_eq_some_iff.1 hg).1 (fun e => h3 (by rw [hv, ← e]; rfl))).trans hg, rest⟩
theorem RB2.nil (B b : Nat) (w : World) : RB2 B b (.slice none 0 0) [] w := ⟨[], rfl, World.ownsRow_nil _ _ _ _, (fun e => by cases e), fun i hi => by cases hi⟩

set_option maxHeartbeats 16000000 in
set_option maxRecDepth 100000 in
theorem pParseAll_any (l : List UInt8) (hl : l.length ≤ 1000000) (L : List Rec) (m : Int) (er : Int) (hp : parA l = (L, m, er)) (w : World) (hE : Env w) :
    Calls Tryd.prog 11 #[.string (S l)] w fun e w' => ∃ v, e = .returned (.tuple #[v, .int .i64 m, .int .i64 er]) ∧ New w.heap.size (RL v L) w' ∧ Below w.heap.size w w' := by
  obtain ⟨Q, hQ⟩ : ∃ Q, (fun (e : Ending) (w' : World) => ∃ v, e = .returned (.tuple #[v, .int .i64 m, .int .i64 er]) ∧ New w.heap.size (RL v L) w' ∧ Below w.heap.size w w') = Q := ⟨_, rfl⟩
  rw [hQ]
  have HErr : RowKit.Hid (∀ n e : Int, parA l = ([], n, e) → ∀ W, Below w.heap.size w W → Q (.returned (.tuple #[.slice none 0 0, .int .i64 n, .int .i64 e])) W) := by
    intro n e h W hW
    rw [h] at hp
    obtain ⟨rfl, h3⟩ := Prod.mk.inj hp
    obtain ⟨rfl, rfl⟩ := Prod.mk.inj h3
    rw [← hQ]
    exact ⟨.slice none 0 0, rfl, fun _ _ _ => RL.nil _, hW⟩
  have HYes : RowKit.Hid (∀ D, parA l = (D, 0, 0) → ∀ v W, New w.heap.size (RL v D) W → Below w.heap.size w W → Q (.returned (.tuple #[v, .int .i64 0, .int .i64 0])) W) := by
    intro D h v W hN hW
    rw [h] at hp
    obtain ⟨rfl, h3⟩ := Prod.mk.inj hp
    obtain ⟨rfl, rfl⟩ := Prod.mk.inj h3
    rw [← hQ]
    exact ⟨v, rfl, hN, hW⟩
  clear hp hQ
  obtain ⟨z, hz⟩ : ∃ z, l.length = z := ⟨_, rfl⟩
  have hsz : (S l).size = z := by rw [S_size, hz]
  by_cases hlong : 65536 < z
  · have t1 : decide ((65536 : Int) < (z : Int)) = true := decide_eq_true (by omega)
    have t1n : decide (65536 < z) = true := decide_eq_true hlong
    have hno := HErr.out 0 4 (by unfold parA; rw [if_pos (by omega)])
    clear hlong hz HYes HErr
    generalize S l = st at *
    go_enter Tryd.func11, Tryd.ntmps11
    go_wp2
    (try refine bodyPost_ret (results_tmp3 rfl _ _ _) rfl ?_)
    exact hno _ (Below.refl _ _)
  have t1 : decide ((65536 : Int) < (z : Int)) = false := decide_eq_false (by omega)
  have t1n : decide (65536 < z) = false := decide_eq_false hlong
  have HPA : RowKit.Hid (parA l = allP l [] (0 + 1)) := by
    unfold RowKit.Hid
    unfold parA
    rw [if_neg (by omega)]
  obtain ⟨W1, hW1⟩ : ∃ W, w.alloc (.cells #[.string (S l), .int .i64 0] 59) = W := ⟨_, rfl⟩
  have hA1 : Below w.heap.size w W1 := by rw [← hW1]; exact (Below.refl _ _).alloc (Nat.le_refl _) _
  have hrd : Rd w.heap.size l 0 W1 := by
    rw [← hW1]
    exact heap_alloc_new w _
  have HR0 := Lib.hid hrd
  have HB0 := Lib.hid hA1
  have HW1 := Lib.hid hW1
  have HNx := Lib.hid (fun (l1 : List UInt8) (h1 : l1.length ≤ 1000000) (a : Nat) (ha : a ≤ 1000000000) W (hb : Below w.heap.size w W) (hr : Rd w.heap.size l1 a W) => next_any w hE w.heap.size l1 h1 a ha W hb hr)
  have HRc := Lib.hid (fun (l1 : List UInt8) (h1 : l1.length ≤ 1000000) (a : Nat) (ha : a ≤ 100000000) W (hb : Below w.heap.size w W) (hr : Rd w.heap.size l1 a W) q t b e ho => record_any w hE w.heap.size (Nat.le_refl _) l1 h1 a ha W hb hr q t b e ho)
  have HUB := Lib.hid (fun W V (hb : Below w.heap.size w W) (hs : w.heap.size < W.heap.size) (h : Up w.heap.size W V) => h.below hb (Nat.le_of_lt hs) (Nat.le_refl _))
  obtain ⟨i0, hi0, hz0, hz1, hz2⟩ := info_rec
  have HI := Lib.hid hi0
  have HZ0 := Lib.hid hz0
  have HZ1 := Lib.hid hz1
  have HZ2 := Lib.hid hz2
  have HZl := Lib.hid hz
  have hz6 : z ≤ 1000000 := by omega
  clear hW1 hA1 hrd hE hi0 hz0 hz1 hz2 hlong hl hz
  generalize S l = st at *
  go_enter Tryd.func11, Tryd.ntmps11
  go_upto_region 4 with fail
  rw [HW1.out]
  clear HW1
  go_wp2
  go_loopw [6] (fun v6 wr => ∃ (l1 : List UInt8) (c a : Nat) (D : List Rec) (ao : Option Addr) (cp : Nat), v6 = .slice ao c cp ∧ D.length = c ∧ c ≤ 64 ∧ RowKit.Hid (a + l1.length ≤ z) ∧ RowKit.Hid (parA l = allP l1 D (a + 1)) ∧
    RowKit.Hid (Rd w.heap.size l1 a wr) ∧ RowKit.Hid (RB2 w.heap.size w.heap.size (.slice ao c cp) D wr) ∧ RowKit.Hid (Below w.heap.size w wr)) (fun _ wr => rdN w.heap.size wr)
  case atStart => exact ⟨l, 0, 0, [], none, 0, rfl, rfl, by omega, (show 0 + l.length ≤ z by rw [HZl.out]; omega), HPA, HR0, RB2.nil _ _ _, HB0⟩
  case round =>
    obtain ⟨l1, c, a, D, ao, cp, rfl, hDc, hc64, HAk, HP, HR, HB2, HB⟩ := hrel
    clear HPA HR0 HB0
    obtain ⟨⟨p0, p1⟩, -⟩ := HR.out.cells
    have HM0 := Lib.hid (rdN_of HR.out)
    by_cases h0 : l1 = []
    · subst h0
      have e0 : S [] = (⟨#[]⟩ : ByteArray) := rfl
      rw [e0] at p0
      have hfin : parA l = (D, 0, 0) := by
        rw [HP.out]
        exact all_end D (a + 1)
      have hyes := HYes.out D hfin
      have HNw := Lib.hid (HB2.out.new (Nat.le_refl _))
      clear hfin HErr HYes
      go_wp2
      (try refine bodyPost_ret (results_tmp3 rfl _ _ _) rfl ?_)
      exact hyes _ _ HNw.out HB.out
    · obtain ⟨s1, s2⟩ := S_facts l1 h0
      have hak := HAk.out
      have hl6 : l1.length ≤ 1000000 := by omega
      have ha9 : a ≤ 100000000 := by omega
      clear hak
      by_cases hc : 64 ≤ c
      · obtain rfl : c = 64 := by omega
        have hno := HErr.out ((a + 1 : Nat) : Int) 13 (by rw [HP.out, all_full _ _ _ h0 (by rw [hDc]; exact hc)])
        have cN := Lib.hid (HNx.out l1 hl6 a (by omega) wr HB.out HR.out)
        have hlt := HR.out.lt
        have HUb := Lib.hid (fun V h => HUB.out wr V HB.out hlt h)
        clear h0 hc HErr HYes HNx HRc HUB HM0
        go_wp2_with fail
        refine cN.out.mono ?_
        rintro e w4 ⟨rfl, hr4, hu4⟩
        have hbd := Lib.hid (HUb.out w4 hu4).drew
        clear p0 p1
        obtain ⟨⟨p0, p1⟩, -⟩ := hr4.cells
        clear hr4 hu4 cN
        go_upto_region 8 with fail
        go_region
        go_wp2
        (try simp only [Exit.inBlock, Exit.then])
        (try refine bodyPost_ret (results_tmp3 rfl _ _ _) rfl ?_)
        exact hno _ hbd.out
      · have t3 : ((c : Int) == 64) = false := by simp; omega
        have t3n : decide (c = 64) = false := decide_eq_false (by omega)
        have t3i : decide ((c : Int) = 64) = false := decide_eq_false (by omega)
        obtain ⟨q1, t, b1, e1, ho⟩ : ∃ q t b e, oneP l1 (a + 1) = (q, t, b, e) := ⟨_, _, _, _, rfl⟩
        have CO := Lib.hid (HRc.out l1 hl6 a ha9 wr HB.out HR.out q1 t b1 e1 ho)
        have HO := Lib.hid ho
        have HNe := Lib.hid h0
        have hlt := HR.out.lt
        have HUb := Lib.hid (fun V h => HUB.out wr V HB.out hlt h)
        have HLt := Lib.hid hlt
        clear ho h0 HRc HNx HUB hlt hl6
        go_wp2_with fail
        refine CO.out.mono ?_
        rintro e w1 ⟨u, rfl, hn1, hu1, l', k', hr1, hok, hbad⟩
        obtain ⟨ua, uc, rfl, -, -⟩ := hn1.here.length
        unfold RV
        have hbx := heap_alloc_new w1 (.cells #[.int .i64 q1.id, .int .i64 q1.ver, .int .i64 q1.kind, .string (S q1.lang), .slice ua q1.fields.length uc] 24)
        have hA1 := (Below.refl w1.heap.size w1).alloc (Nat.le_refl _) (.cells #[.int .i64 q1.id, .int .i64 q1.ver, .int .i64 q1.kind, .string (S q1.lang), .slice ua q1.fields.length uc] 24)
        obtain ⟨V1, hV1⟩ : ∃ W, w1.alloc (.cells #[.int .i64 q1.id, .int .i64 q1.ver, .int .i64 q1.kind, .string (S q1.lang), .slice ua q1.fields.length uc] 24) = W := ⟨_, rfl⟩
        rw [hV1] at hbx hA1
        have hU2 := hu1.trans (Up.of hA1)
        have HR2 := Lib.hid (hr1.after hA1)
        have HBw := Lib.hid (HUb.out V1 hU2)
        have HRow := Lib.hid (HB2.out.up hU2)
        have HN2 := Lib.hid (hn1.after hA1)
        obtain ⟨us0, _, hown0, _, _⟩ := HB2.out
        have hown1 := fun j hj => (World.ownsRow.lt hown0 j hj).2
        have HOwn := Lib.hid hown1
        have hge : wr.heap.size ≤ w1.heap.size := hu1.size
        obtain ⟨bx, hbb⟩ : ∃ b, w1.heap.size = b := ⟨_, rfl⟩
        rw [hbb] at hbx hge
        have HX2 := Lib.hid hbx
        have HV1 := Lib.hid hV1
        have HBb := Lib.hid hbb
        have HOk := Lib.hid hok
        have HBad := Lib.hid hbad
        have hsz2 : bx < V1.heap.size := (Array.getElem?_eq_some_iff.1 hbx).1
        have hltw := HLt.out
        clear hn1 hu1 hr1 hbx hA1 hV1 hU2 hown0 hown1 hbb hok hbad CO p0 p1
        go_upto_region 10 with fail
        rw [HV1.out, HBb.out]
        clear HV1 HBb
        by_cases g0 : e1 = 0
        · obtain ⟨hl', hk', hkl⟩ := HOk.out g0
          subst hl' g0
          have hless := one_less l1 (a + 1) (by rw [HO.out]; exact fun g => g rfl)
          rw [HO.out] at hless
          have hless : l'.length < l1.length := hless
          have HLess := Lib.hid hless
          have HAk2 : RowKit.Hid (k' + l'.length ≤ z) := by
            have := HAk.out
            unfold RowKit.Hid
            omega
          have HPn : RowKit.Hid (parA l = allP l' (D ++ [q1]) (k' + 1)) := by
            unfold RowKit.Hid
            rw [HP.out, all_go _ _ _ HNe.out (by rw [hDc]; omega) q1 l' b1 HO.out, hk']
          clear hless hkl hk' HNe HO HErr HYes
          have hR3 := HRow.out.after ((Below.refl V1.heap.size V1).alloc (Nat.le_refl _) (.cells (encR q1 (.slice ua q1.fields.length uc)).toArray 24))
          have hnx : NewX (w.heap.size + 1) (Value.slice ao c cp).ownBlock (FL (.slice ua q1.fields.length uc) q1.fields) V1 := NewX.of HN2.out (by omega) (fun j hj => HOwn.out j hj)
          have hnx3 := hnx.on (w' := V1.alloc (.cells (encR q1 (.slice ua q1.fields.length uc)).toArray 24)) (by simp) (fun i _ hi _ => Below.heap_alloc _ _ _ hi)
          obtain ⟨xs, hxs, hpush⟩ := hR3.open (by simp; omega)
          have HPush := Lib.hid (fun v' w' => hpush q1 (.slice ua q1.fields.length uc) v' w' hnx3)
          rw [hDc] at hxs
          have HXs := Lib.hid hxs
          have HOneE := Lib.hid (encR_one q1 (.slice ua q1.fields.length uc) rfl)
          have HB3 := Lib.hid (HBw.out.alloc HBw.out.size (.cells (encR q1 (.slice ua q1.fields.length uc)).toArray 24))
          have HP3 := Lib.hid ((Below.heap_alloc V1 (.cells (encR q1 (.slice ua q1.fields.length uc)).toArray 24) w.heap.size (by omega)).trans HR2.out)
          obtain ⟨⟨x0, x1, x2, x3, x4⟩, -⟩ := rcells HX2.out
          obtain ⟨us1, _, _, hob, _⟩ := HRow.out
          have HOb := Lib.hid hob
          clear hR3 hnx hnx3 hxs hpush hob HRow HBw HR2 HX2 HN2
          go_wp2_with (at_builtin; go_loud (refine wpList_append_two _ rfl _ _ 33 rfl w.heap.size 24 i0 (.agg #[.int .i64 0, .int .i64 0, .int .i64 0, .string ⟨#[]⟩, .slice none 0 0]) 5 64 Tryd.underlying33 HI.out HZ0.out HZ1.out HZ2.out rfl (by decide) _ _ _ rfl HXs.out ⟨V1.heap.size, 0, none⟩ 1 1 (encR q1 (.slice ua q1.fields.length uc)) rfl rfl (cells_five _ _ _ _ _ _ _) HOneE.out (by decide) (by unfold maxLen; omega) (by omega) (by simp; omega) ?_))
          intro fv2 w3 hown3 hg3 hnn3 hob3
          have hRn := HPush.out fv2 w3 hg3 (by rw [show (V1.alloc (.cells (encR q1 (.slice ua q1.fields.length uc)).toArray 24)).heap.size = V1.heap.size + 1 by simp]; exact hob3) (by rw [hDc]; exact hown3)
          have HR4 := Lib.hid hRn
          have HB4 : RowKit.Hid (Below w.heap.size w w3) := HB3.out.grown hg3 HB3.out.size (fun j hj => (HXs.out.lt j hj).1)
          have HP4 : RowKit.Hid (Rd w.heap.size l' k' w3) := (hg3.block w.heap.size (by simp; omega) (fun e => HOb.out e.symm)).trans HP3.out
          have HM4 := Lib.hid (rdN_of HP4.out)
          obtain ⟨ao2, cp2, rfl⟩ := own_form hown3
          clear hRn hown3 hg3 hnn3 hob3 HPush HXs HOneE HB3 HP3 x0 x1 x2 x3 x4
          go_wp2
          go_roundw
          case rel => exact ⟨l', c + 1, k', D ++ [q1], _, _, by first | rfl | trivial, by rw [List.length_append, hDc]; rfl, by omega, HAk2, HPn, HP4, HR4, HB4⟩
          case measure =>
            rw [HM4.out, HM0.out]
            exact HLess.out
        · have u1 : (e1 != 0) = true := by simpa using g0
          have hkm := HBad.out g0
          subst hkm
          have hno := HErr.out (k' : Int) e1 (by rw [HP.out, all_bad _ _ _ HNe.out (by rw [hDc]; omega) q1 t k' e1 HO.out g0])
          have hbd := Lib.hid HBw.out.drew
          obtain ⟨⟨p0, p1⟩, -⟩ := HR2.out.cells
          clear g0 HErr HYes HO
          go_upto_region 11 with fail
          go_region
          go_wp2
          (try simp only [Exit.inBlock, Exit.then])
          (try refine bodyPost_ret (results_tmp3 rfl _ _ _) rfl ?_)
          exact hno _ hbd.out
end

section
open Go.RowKit Go.PlainAid

end

section
def al1F : Fld := ⟨[50, 52, 53], [49, 48], [(97, [68, 111, 103, 115])], 0⟩
def al1R : Rec := ⟨1, 3, 1, [101, 110, 103], [al1F]⟩
def al1H : List UInt8 := [61, 49, 32, 51, 32, 98, 111, 111, 107, 32, 101, 110, 103]
def al1L : List UInt8 := [50, 52, 53, 32, 49, 48, 32, 36, 97, 68, 111, 103, 115]
def al1S : List UInt8 := [61, 49, 32, 51, 32, 98, 111, 111, 107, 32, 101, 110, 103, 10, 50, 52, 53, 32, 49, 48, 32, 36, 97, 68, 111, 103, 115, 10, 10]
theorem al1_right : rightRI al1R = 0 := by decide +kernel
theorem al1_text : textX al1R = al1S := by decide +kernel
theorem al1_prn : prnX al1R = (al1S, 0) := by rw [prn_of _ al1_right, al1_text]
theorem al1_hdr : hdrO al1H = some ⟨1, 3, 1, [101, 110, 103], []⟩ := by
  have h : hdrR ⟨1, 3, 1, [101, 110, 103], []⟩ = al1H := by decide +kernel
  rw [← h]
  exact hdrO_back ⟨1, 3, 1, [101, 110, 103], []⟩ (by decide +kernel) rfl
theorem al1_par : parseO al1L = some al1F := by
  have h : lineL al1F = al1L := by decide +kernel
  rw [← h]
  exact parse_back al1F (by decide +kernel)
theorem one_hdr (s t : List UInt8) (k : Nat) (q : Rec) (h1 : lnL s = al1H) (h2 : lnE s = true) (h3 : lnR s = t) (hq : q = ⟨1, 3, 1, [101, 110, 103], []⟩) : oneP s k = oneF q (fldsP t [] (k + 1)) := by
  unfold oneP
  rw [h1, al1_hdr, hq]
  show (if lnE s = false then _ else _) = _
  rw [h2, if_neg (by decide), h3]
/-- "=1 3 book eng\\n245 10 $aDogs\\n" -/
theorem al1_a : parX (al1H ++ 10 :: (al1L ++ [10])) = (rec0, 3, 3) := by
  have h1 : oneP (al1H ++ 10 :: (al1L ++ [10])) 1 = (rec0, [], 3, 3) := by
    rw [one_hdr _ (al1L ++ [10]) 1 _ (by decide) (by decide) (by decide) rfl, flds_go (al1L ++ [10]) [] 2 (by decide) (by decide) (by decide) al1F ((show lnL (al1L ++ [10]) = al1L by decide) ▸ al1_par),
      show lnR (al1L ++ [10]) = [] by decide, flds_cut [] _ _ (fun h => h.1 rfl) rfl]
    rfl
  unfold parX
  rw [h1]
  rfl
/-- "=1 3 book eng\\n245 10 $aDogs" -/
theorem al1_b : parX (al1H ++ 10 :: al1L) = (rec0, 2, 3) := by
  have h1 : oneP (al1H ++ 10 :: al1L) 1 = (rec0, al1L, 2, 3) := by
    rw [one_hdr _ al1L 1 _ (by decide) (by decide) (by decide) rfl, flds_cut al1L [] 2 (fun h => absurd h.2 (by decide)) (by decide)]
    rfl
  unfold parX
  rw [h1]
  rfl
/-- "=1 3 book eng\\n\\nx" -/
theorem al1_c : parX (al1H ++ 10 :: 10 :: [120]) = (rec0, 3, 3) := by
  have h1 : oneP (al1H ++ 10 :: 10 :: [120]) 1 = (⟨1, 3, 1, [101, 110, 103], []⟩, [120], 3, 0) := by
    rw [one_hdr _ (10 :: [120]) 1 _ (by decide) (by decide) (by decide) rfl, flds_end (10 :: [120]) [] 2 (by decide) (by decide)]
    rfl
  unfold parX
  rw [h1]
  rfl
/-- "=01 3 book eng\\n\\n" -/
theorem al1_d : parX [61, 48, 49, 32, 51, 32, 98, 111, 111, 107, 32, 101, 110, 103, 10, 10] = (rec0, 1, 3) := by
  have h1 : oneP [61, 48, 49, 32, 51, 32, 98, 111, 111, 107, 32, 101, 110, 103, 10, 10] 1 = (rec0, [61, 48, 49, 32, 51, 32, 98, 111, 111, 107, 32, 101, 110, 103, 10, 10], 1, 3) := by
    unfold oneP
    rw [show lnL [61, 48, 49, 32, 51, 32, 98, 111, 111, 107, 32, 101, 110, 103, 10, 10] = [61, 48, 49, 32, 51, 32, 98, 111, 111, 107, 32, 101, 110, 103] by decide]
    have : hdrO [61, 48, 49, 32, 51, 32, 98, 111, 111, 107, 32, 101, 110, 103] = none := by
      unfold hdrO
      split
      · rfl
      · rw [show numO _ = none from (by decide +kernel : numO (([61, 48, 49, 32, 51, 32, 98, 111, 111, 107, 32, 101, 110, 103].drop 1).take (blankI [61, 48, 49, 32, 51, 32, 98, 111, 111, 107, 32, 101, 110, 103] - 1)) = none)]
    rw [this]
  unfold parX
  rw [h1]
  rfl
theorem al1_two : parA (al1S ++ al1S) = ([al1R, al1R], 0, 0) := by
  refine parA_back [al1R, al1R] _ ?_
  have e : [al1R, al1R].flatMap textX = al1S ++ al1S := by
    rw [List.flatMap_cons, List.flatMap_cons, List.flatMap_nil, al1_text, List.append_nil]
  rw [← e]
  refine prnA_of _ (by decide) (fun r hr => ?_) (by rw [e]; decide)
  rcases List.mem_cons.1 hr with rfl | hr
  · exact al1_right
  · rw [List.mem_singleton.1 hr]; exact al1_right
theorem al1_cut : parA (al1S ++ [61, 49]) = ([], 4, 3) := by
  have h1 := one_back al1R [61, 49] 1 al1_right
  rw [al1_text] at h1
  have h2 : oneP [61, 49] 4 = (rec0, [61, 49], 4, 3) := by
    unfold oneP
    rw [show lnL [61, 49] = [61, 49] by decide, hdrO_none]
  unfold parA
  rw [if_neg (by decide), all_go _ _ _ (by decide) (by decide) al1R [61, 49] 4 h1, all_bad _ _ _ (by decide) (by decide) rec0 [61, 49] 4 3 h2 (by decide)]
  rfl
where
  hdrO_none : hdrO [61, 49] = none := by
    unfold hdrO
    rw [if_pos (by decide)]
end

end Go.Proofs.YtnfallkeicehiaaDoor

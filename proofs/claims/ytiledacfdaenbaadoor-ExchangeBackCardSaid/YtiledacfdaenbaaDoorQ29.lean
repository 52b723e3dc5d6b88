/- Merged: RH10. -/
import Derived.Test.YtiledacfdaenbaaDoorQ28
import Derived.Test.YtiledacfdaenbaaDoorQ26
namespace Go.Proofs.YtiledacfdaenbaaDoor

section
open Go.RowKit Go.PlainAid
/-- A new box of a field. -/
def SPR.boxF (W0 : World) : SPR (fun u v => Below u.heap.size u v) := ⟨fun v w => ∃ g, v = .pointer (some ⟨g, 0, none⟩) ∧ W0.heap.size ≤ g ∧ w.heap[g]? = some (.cells #[.string ⟨#[]⟩, .string ⟨#[]⟩, .slice none 0 0, .int .i64 0] 49 (0, 0)),
  fun _ w _ h b => by
    obtain ⟨g, h1, h2, h3⟩ := h
    exact ⟨g, h1, h2, (b.block g (Array.getElem?_eq_some_iff.1 h3).1).trans h3⟩⟩

theorem subG_end (l : List UInt8) (h : l.length = 0 ∨ l.getD 0 0 ≠ 31) : subG l = some [] := by
  rw [subG, if_pos h]
theorem subG_bad (l : List UInt8) (h0 : ¬ (l.length = 0 ∨ l.getD 0 0 ≠ 31)) (h : l.length ≤ stopF (l.drop 2) + 2) : subG l = none := by
  rw [subG, if_neg h0, dif_pos h]
theorem subG_go (l : List UInt8) (h0 : ¬ (l.length = 0 ∨ l.getD 0 0 ≠ 31)) (h : ¬ l.length ≤ stopF (l.drop 2) + 2) :
    subG l = (subG (l.drop (stopF (l.drop 2) + 2))).map ((l.getD 1 0, (l.drop 2).take (stopF (l.drop 2))) :: ·) := by
  rw [subG, if_neg h0, dif_neg h]
theorem stop_go : ∀ (l : List UInt8) (j : Nat), j < stopF l → j < l.length ∧ l.getD j 0 ≠ 31 ∧ l.getD j 0 ≠ 30
  | [], j, h => by cases h
  | x :: t, 0, h => by
    unfold stopF at h
    by_cases hx : x = 31 ∨ x = 30
    · rw [if_pos hx] at h; cases h
    · exact ⟨by simp, fun e => hx (.inl e), fun e => hx (.inr e)⟩
  | x :: t, j + 1, h => by
    unfold stopF at h
    by_cases hx : x = 31 ∨ x = 30
    · rw [if_pos hx] at h; cases h
    · rw [if_neg hx] at h
      have := stop_go t j (by omega)
      exact ⟨by rw [List.length_cons]; omega, this.2⟩
theorem stop_stop : ∀ (l : List UInt8), stopF l = l.length ∨ (stopF l < l.length ∧ (l.getD (stopF l) 0 = 31 ∨ l.getD (stopF l) 0 = 30))
  | [] => .inl rfl
  | x :: t => by
    unfold stopF
    by_cases hx : x = 31 ∨ x = 30
    · rw [if_pos hx]
      exact .inr ⟨by simp, hx⟩
    · rw [if_neg hx]
      rcases stop_stop t with h | ⟨h, h2⟩
      · exact .inl (by rw [h, List.length_cons])
      · exact .inr ⟨by rw [List.length_cons]; omega, h2⟩
theorem getD_drop (l : List UInt8) (i j : Nat) : (l.drop i).getD j 0 = l.getD (i + j) 0 := by
  rw [List.getD_eq_getElem?_getD, List.getD_eq_getElem?_getD, List.getElem?_drop]
theorem u8_int (a : UInt8) (b : Nat) (hb : b < 256) : ((a.toNat : Int) = (b : Int)) ↔ a = UInt8.ofNat b := by
  constructor
  · intro h
    apply UInt8.toNat_inj.1
    simp
    omega
  · rintro rfl
    simp
    omega

set_option maxHeartbeats 16000000 in
set_option maxRecDepth 100000 in
theorem refField_any (tag l : List UInt8) (h7 : 7 ≤ l.length) (hz : l.length ≤ 100000) (w : World) :
    Calls Tryd.prog 42 #[.string (S tag), .string (S l)] w fun e w' => ∃ f u ok, e = .returned (.tuple #[FV f u, .bool ok]) ∧ Below w.heap.size w w' ∧ New w.heap.size (QL u f.subs) w' ∧ ((fldG tag l = some f ∧ ok = true) ∨ (fldG tag l = none ∧ ok = false)) := by
  obtain ⟨Q, hQ⟩ : ∃ Q, (fun (e : Ending) (w' : World) => ∃ f u ok, e = .returned (.tuple #[FV f u, .bool ok]) ∧ Below w.heap.size w w' ∧ New w.heap.size (QL u f.subs) w' ∧ ((fldG tag l = some f ∧ ok = true) ∨ (fldG tag l = none ∧ ok = false))) = Q := ⟨_, rfl⟩
  rw [hQ]
  have HQ : RowKit.Hid (∀ e w', (∃ f u ok, e = .returned (.tuple #[FV f u, .bool ok]) ∧ Below w.heap.size w w' ∧ New w.heap.size (QL u f.subs) w' ∧ ((fldG tag l = some f ∧ ok = true) ∨ (fldG tag l = none ∧ ok = false))) → Q e w') := by rw [← hQ]; exact fun _ _ h => h
  clear hQ
  obtain ⟨au, hau⟩ : ∃ au, numF l 2 4 = au := ⟨_, rfl⟩
  have cN := Lib.hid (fun W => refNumber_any l (by omega) 2 4 (by omega) (by omega) au hau W)
  have HF : RowKit.Hid (fldG tag l = (subG (l.drop 6)).map fun L => ⟨tag, l.take 2, L, au⟩) := by
    unfold RowKit.Hid fldG
    rw [hau]
  have HEx : RowKit.Hid ((S l).extract 0 2 = S (l.take 2)) := by unfold RowKit.Hid; rw [S_extract, List.drop_zero]
  obtain ⟨z, hlz⟩ : ∃ z, l.length = z := ⟨_, rfl⟩
  have hsz : (S l).size = z := by rw [S_size, hlz]
  have HZ := Lib.hid hlz
  have hbt := get_bt (S l)
  have HBS := Lib.hid (fun i => bt_S l i)
  have HExt := Lib.hid (fun a b => S_extract l a b)
  have HD0 : RowKit.Hid (subG (l.drop 6) = (subG (l.drop 6)).map (([] : List Sub) ++ ·)) := by
    unfold RowKit.Hid
    cases subG (l.drop 6) <;> rfl
  have HSz2 : RowKit.Hid (2 ≤ z) := by unfold RowKit.Hid; omega
  rw [hlz] at h7 hz
  change RowKit.Hid (∀ W, Calls _ _ #[_, .int .i64 2, .int .i64 4] W _) at cN
  obtain ⟨s, hs⟩ : ∃ s, S l = s := ⟨_, rfl⟩
  rw [hs] at hsz hbt HBS HExt HEx cN ⊢
  have HS := Lib.hid hs
  clear hs hlz hau
  obtain ⟨si, hsi⟩ : ∃ s, S (l.take 2) = s := ⟨_, rfl⟩
  have HSi := Lib.hid hsi
  rw [hsi] at HEx
  clear hsi
  obtain ⟨stg, hstg⟩ : ∃ s, S tag = s := ⟨_, rfl⟩
  have HStg := Lib.hid hstg
  rw [hstg]
  clear hstg
  obtain ⟨W0, hW0⟩ : ∃ W0, w.alloc (.cells #[.string ⟨#[]⟩, .string ⟨#[]⟩, .slice none 0 0, .int .i64 0] 49) = W0 := ⟨_, rfl⟩
  have b0 : Below w.heap.size w W0 := by rw [← hW0]; exact (Below.refl w.heap.size w).alloc (Nat.le_refl _) _
  have hR0 : W0.heap[w.heap.size]? = some (.cells #[.string ⟨#[]⟩, .string ⟨#[]⟩, .slice none 0 0, .int .i64 0] 49 (0, 0)) := by rw [← hW0]; exact heap_alloc_new w _
  have hlt0 : w.heap.size < W0.heap.size := by rw [← hW0]; simp
  have HW0 := Lib.hid hW0
  have B0 := Lib.hid b0
  have HR0 := Lib.hid hR0
  clear hW0 b0 hR0
  go_enter Tryd.func42, Tryd.ntmps42
  go_upto_region 1 with fail
  rw [HW0.out]
  apply wp_region_end (R := fun u v => Below u.heap.size u v) (V := [SPR.eq _ (.string stg), SPR.eq _ (.string s), SPR.eq _ (.string si), SPR.eq _ (.string s), SPR.eq _ (.int .i64 au), SPR.eq _ (.agg #[.string stg, .string si, .slice none 0 0, .int .i64 au]), (SPR.boxF W0)]) (n := 7) (f := 2)
  case htrans => exact fun _ _ _ h k => h.trans (k.mono h.size)
  case hdrew => exact (Below.refl _ _).drew
  case hm => kernel_rfl
  case hd => kernel_rfl
  case hb => kernel_rfl
  case hA =>
    intro vs
    simp only [List.take_succ_cons, List.take_zero, puts, Act.put, List.setIfInBounds_toArray, List.set_cons_zero, List.set_cons_succ]
    exact rfl
  case hlast => kernel_rfl
  case hol => exact rfl
  case hob =>
    refine ObsR.cons _ _ _ _ _ _ _ ?o0 (ObsR.cons _ _ _ _ _ _ _ ?o1 (ObsR.cons _ _ _ _ _ _ _ ?o2 (ObsR.cons _ _ _ _ _ _ _ ?o3 (ObsR.cons _ _ _ _ _ _ _ ?o4 (ObsR.cons _ _ _ _ _ _ _ ?o5 (ObsR.cons _ _ _ _ _ _ _ ?o6 (ObsR.nil _ _ _ _ _ _ _)))))))
    case o0 =>
      intro vs W hw hd K hK
      go_simp
      exact hK.out _ _ rfl (Below.refl _ _)
    case o1 =>
      intro vs W hw hd K hK
      go_simp
      exact hK.out _ _ rfl (Below.refl _ _)
    case o2 =>
      intro vs W hw hd K hK
      have h1 : vs 1 = .string s := hd 1 (by kernel_rfl)
      have hx := HEx.out
      have h2 : (2 : Int) ≤ (z : Int) := by have := HSz2.out; omega
      simp only [Nat.reduceAdd, h1] at hK ⊢
      go_simp
      exact hK.out _ _ rfl (Below.refl _ _)
    case o3 =>
      intro vs W hw hd K hK
      go_simp
      exact hK.out _ _ rfl (Below.refl _ _)
    case o4 =>
      intro vs W hw hd K hK
      have h3 : vs 3 = .string s := hd 3 (by kernel_rfl)
      simp only [Nat.reduceAdd, h3] at hK ⊢
      go_simp
      refine (cN.out W).mono ?_
      rintro e W' ⟨rfl, hb'⟩
      rw [hb']
      exact hK.out _ _ rfl (Below.refl _ _)
    case o5 =>
      intro vs W hw hd K hK
      have h0 : vs 0 = .string stg := hd 0 (by kernel_rfl)
      have h2 : vs 2 = .string si := hd 2 (by kernel_rfl)
      have h4 : vs 4 = .int .i64 au := hd 4 (by kernel_rfl)
      simp only [Nat.reduceAdd, h0, h2, h4] at hK ⊢
      go_simp
      exact hK.out _ _ rfl (Below.refl _ _)
    case o6 =>
      intro vs W hw hd K hK
      go_simp
      exact hK.out _ _ ⟨W.heap.size, rfl, hw.size, heap_alloc_new W _⟩ ((Below.refl _ _).alloc (Nat.le_refl _) _)
  case hfin =>
    intro vs W hw hv'
    have e5 : vs 5 = .agg #[.string stg, .string si, .slice none 0 0, .int .i64 au] := hv' 5 (by decide)
    obtain ⟨g, e6, hg0, hg⟩ : ∃ g, vs 6 = .pointer (some ⟨g, 0, none⟩) ∧ W0.heap.size ≤ g ∧ W.heap[g]? = some (.cells #[.string ⟨#[]⟩, .string ⟨#[]⟩, .slice none 0 0, .int .i64 0] 49 (0, 0)) := hv' 6 (by decide)
    obtain ⟨⟨x0, x1, x2, x3⟩, z0, z1, z2, z3⟩ := fcells hg
    simp only [Nat.reduceAdd, e5, e6]
    have HRF : RowKit.Hid (RF w g (setF4 W g (.string stg) (.string si) (.slice none 0 0) (.int .i64 au)) stg si (.slice none 0 0) au [] (setF4 W g (.string stg) (.string si) (.slice none 0 0) (.int .i64 au))) := by
      refine ⟨by omega, by rw [fld_size]; exact (Array.getElem?_eq_some_iff.1 hg).1, fld_set4 hg, (fld_other _ (by omega)).trans ((hw.block _ hlt0).trans HR0.out), World.ownsRow_nil _ _ _ _, Nat.le_refl _, fld_below (B0.out.trans (hw.mono B0.out.size)) (by omega)⟩
    unfold setF4 at HRF
    clear hv' e5 e6 hw hg hg0 HW0 HR0 B0
    go_simp
    obtain ⟨W5, hW5⟩ : ∃ W5, (((W.setCell ⟨g, 0, none⟩ (.string stg)).setCell ⟨g, 1, none⟩ (.string si)).setCell ⟨g, 2, none⟩ (.slice none 0 0)).setCell ⟨g, 3, none⟩ (.int .i64 au) = W5 := ⟨_, rfl⟩
    rw [hW5] at HRF ⊢
    clear hW5 x0 x1 x2 x3 z0 z1 z2 z3 cN HEx
    go_wp2
    go_loopw [7] (fun i wr => ∃ (k n : Nat) (L : List Sub) (ao : Option Addr) (cp : Nat), i = .int .i64 (k : Int) ∧ 6 ≤ k ∧ k ≤ z ∧ L.length = n ∧ n ≤ k ∧ RowKit.Hid (subG (l.drop 6) = (subG (l.drop k)).map (L ++ ·)) ∧ RowKit.Hid (RF w g W5 stg si (.slice ao n cp) au L wr)) (fun i _ => z - (intOf i).toNat)
    case atStart => exact ⟨6, 0, [], none, 0, rfl, Nat.le_refl _, by omega, rfl, Nat.zero_le _, HD0, HRF⟩
    case round =>
      obtain ⟨k, n, L, ao, cp, rfl, hk6, hkz, hLn, hnk, HD, HN⟩ := hrel
      have i1 : (0 : Int) ≤ (k : Int) := by omega
      by_cases hkz2 : k < z
      · have i2 : (k : Int) < (z : Int) := by omega
        have hbk := HBS.out k
        by_cases h31 : l.getD k 0 = 31
        · rw [h31] at hbk
          have e31 : (((31 : UInt8).toNat : Nat) : Int) = 31 := rfl
          rw [e31] at hbk
          obtain ⟨st, hst⟩ : ∃ n, stopF (l.drop (k + 2)) = n := ⟨_, rfl⟩
          have hn0 : ¬ ((l.drop k).length = 0 ∨ (l.drop k).getD 0 0 ≠ 31) := by
            rw [List.length_drop, HZ.out, getD_drop, Nat.add_zero, h31]
            intro h
            rcases h with h | h
            · omega
            · exact h rfl
          have hstl := stopF_le (l.drop (k + 2))
          rw [hst, List.length_drop, HZ.out] at hstl
          have HGo := Lib.hid (stop_go (l.drop (k + 2)))
          have HStop := Lib.hid (stop_stop (l.drop (k + 2)))
          have HBad : RowKit.Hid (z ≤ k + 2 + st → subG (l.drop k) = none) := by
            intro h
            refine subG_bad _ hn0 ?_
            rw [List.length_drop, HZ.out, List.drop_drop, hst]
            omega
          have HMore : RowKit.Hid (¬ z ≤ k + 2 + st → subG (l.drop k) = (subG (l.drop (k + 2 + st))).map ((l.getD (k + 1) 0, (l.drop (k + 2)).take st) :: ·)) := by
            intro h
            rw [subG_go _ hn0 (by rw [List.length_drop, HZ.out, List.drop_drop, hst]; omega), List.drop_drop, List.drop_drop, hst, getD_drop, show k + (st + 2) = k + 2 + st by omega]
          rw [hst] at HGo HStop
          have HStL : RowKit.Hid (st = z - (k + 2) ∨ (st < z - (k + 2) ∧ (l.getD (k + 2 + st) 0 = 31 ∨ l.getD (k + 2 + st) 0 = 30))) := by
            have := HStop.out
            rw [List.length_drop, HZ.out, getD_drop] at this
            exact this
          clear hst h31 hn0 e31 HStop
          go_upto_block 2 with fail
          go_cut [8] from 27 to 44 (fun p wx => p = .int .i64 ((k : Int) + 2 + (st : Int)) ∧ wx = wr)
          case first =>
            go_wp2
            go_loopw [8] (fun p wx => ∃ j : Nat, j ≤ st ∧ p = .int .i64 ((k : Int) + 2 + (j : Int)) ∧ wx = wr) (fun p _ => k + 2 + st - (intOf p).toNat)
            case atStart => exact ⟨0, Nat.zero_le _, by go_num, rfl⟩
            case round =>
              obtain ⟨j, hj, rfl, rfl⟩ := hrel
              clear hbk
              have hbk := HBS.out (k + 2 + j)
              have p1 : (0 : Int) ≤ (k : Int) + 2 + (j : Int) := by omega
              have p3 : ((k : Int) + 2 + (j : Int)).toNat = k + 2 + j := by omega
              by_cases hjs : j < st
              · obtain ⟨g1, g2, g3⟩ := HGo.out j hjs
                rw [getD_drop] at g2 g3
                rw [List.length_drop, HZ.out] at g1
                have p2 : (k : Int) + 2 + (j : Int) < (z : Int) := by omega
                have t31 : ¬ ((l.getD (k + 2 + j) 0).toNat : Int) = 31 := fun h => g2 ((u8_int _ 31 (by decide)).1 h)
                have t30 : ¬ ((l.getD (k + 2 + j) 0).toNat : Int) = 30 := fun h => g3 ((u8_int _ 30 (by decide)).1 h)
                have u1 : (((l.getD (k + 2 + j) 0).toNat : Int) != 31) = true := by simpa using t31
                have u2 : (((l.getD (k + 2 + j) 0).toNat : Int) != 30) = true := by simpa using t30
                clear g1 g2 g3
                generalize ((l.getD (k + 2 + j) 0).toNat : Int) = c at *
                go_wp2
                go_roundw
                case rel => exact ⟨j + 1, by omega, by go_num, trivial⟩
                case measure => simp [intOf]; omega
              · obtain rfl : j = st := by omega
                rcases HStL.out with h | ⟨h, h2⟩
                · have p2 : decide ((k : Int) + 2 + (j : Int) < (z : Int)) = false := decide_eq_false (by omega)
                  clear hbk h
                  go_wp2
                  go_meet
                  exact ⟨rfl, rfl⟩
                · have p2 : (k : Int) + 2 + (j : Int) < (z : Int) := by omega
                  rcases h2 with h2 | h2
                  · rw [h2] at hbk
                    have e31 : (((31 : UInt8).toNat : Nat) : Int) = 31 := rfl
                    rw [e31] at hbk
                    clear e31 h2 h
                    go_wp2
                    go_meet
                    exact ⟨rfl, rfl⟩
                  · rw [h2] at hbk
                    have e30 : (((30 : UInt8).toNat : Nat) : Int) = 30 := rfl
                    rw [e30] at hbk
                    clear e30 h2 h
                    go_wp2
                    go_meet
                    exact ⟨rfl, rfl⟩
          case rest =>
            obtain ⟨rfl, hwx⟩ := hcut
            rw [hwx]
            clear hwx HGo HStL
            by_cases hpz : z ≤ k + 2 + st
            · have HNone : RowKit.Hid (fldG tag l = none) := by
                unfold RowKit.Hid
                rw [HF.out, HD.out, HBad.out hpz]
                rfl
              have t1 : decide ((z : Int) ≤ (k : Int) + 2 + (st : Int)) = true := decide_eq_true (by omega)
              obtain ⟨⟨f0, f1, f2, f3⟩, ⟨z0, z1, z2, z3⟩, ⟨r0, r1, r2, r3⟩, y0, y1, y2, y3⟩ := HN.out.cells
              obtain ⟨hfin, hnew, hexc⟩ := HN.out.ret
              have hgne : (w.heap.size : Nat) ≠ g := by have := HN.out.lt; omega
              unfold setF4 at hfin hnew hexc
              clear HN HD HBad HMore hpz hbk
              go_wp2
              refine bodyPost_ret (results_row_tmp10 rfl _ _ w.heap.size _ _ _ _ rfl hfin.out Tryd.underlying49 rfl (by kernel_rfl)) rfl ?_
              exact HQ.out _ _ ⟨⟨tag, l.take 2, L, au⟩, _, false, by unfold FV; rw [HStg.out, HSi.out]; rfl, hexc.out, hnew.out, .inr ⟨HNone.out, rfl⟩⟩
            · have t1 : decide ((z : Int) ≤ (k : Int) + 2 + (st : Int)) = false := decide_eq_false (by omega)
              have hb1 := HBS.out (k + 1)
              have hx2 := HExt.out (k + 2) (k + 2 + st)
              rw [List.drop_take, Nat.add_sub_cancel_left] at hx2
              have q0 : (0 : Int) ≤ (k : Int) + 1 := by omega
              have q1 : (k : Int) + 1 < (z : Int) := by omega
              have q2 : ((k : Int) + 1).toNat = k + 1 := by omega
              have q3 : (0 : Int) ≤ (k : Int) + 2 := by omega
              have q4 : (k : Int) + 2 ≤ (k : Int) + 2 + (st : Int) := by omega
              have q5 : (k : Int) + 2 + (st : Int) ≤ (z : Int) := by omega
              have q6 : ((k : Int) + 2).toNat = k + 2 := by omega
              have q7 : ((k : Int) + 2 + (st : Int)).toNat = k + 2 + st := by omega
              have HD2 : RowKit.Hid (subG (l.drop 6) = (subG (l.drop (k + 2 + st))).map ((L ++ [(l.getD (k + 1) 0, (l.drop (k + 2)).take st)]) ++ ·)) := by
                unfold RowKit.Hid
                rw [HD.out, HMore.out hpz]
                cases subG (l.drop (k + 2 + st)) <;> simp
              obtain ⟨x, hx⟩ : ∃ x, l.getD (k + 1) 0 = x := ⟨_, rfl⟩
              obtain ⟨v, hv⟩ : ∃ v, (l.drop (k + 2)).take st = v := ⟨_, rfl⟩
              rw [hx] at hb1 HD2
              rw [hv] at hx2 HD2
              obtain ⟨sv, hsv⟩ : ∃ s, S v = s := ⟨_, rfl⟩
              rw [hsv] at hx2
              have HSv := Lib.hid hsv
              have hND := HN.out.drew
              have hlt5 := HN.out.lt
              have hglt := HN.out.glt
              obtain ⟨⟨f0, f1, f2, f3⟩, ⟨z0, z1, z2, z3⟩, -, -⟩ := HN.out.cells
              have f2a : (wr.alloc (.cells #[.int .u8 (x.toNat : Int), .string sv] 46)).cell? ⟨g, 2, none⟩ = some (.slice ao n cp) := (World.cell?_alloc_lt wr _ ⟨g, 2, none⟩ (show g < wr.heap.size by have := HN.out.size; omega)).trans f2
              have hrow := hND.own.alloc (.cells #[.int .u8 (x.toNat : Int), .string sv] 46)
              rw [hLn] at hrow
              have hcl2 := cells_two10 wr.drew (.int .u8 (x.toNat : Int)) (.string sv) 46
              have hbs : W5.heap.size ≤ (wr.drew.alloc (.cells #[.int .u8 (x.toNat : Int), .string sv] 46)).heap.size := (hND.alloc (.cells #[.int .u8 (x.toNat : Int), .string sv] 46)).size
              have HApp := Lib.hid (fun w3 hg => hND.app (w3 := w3) (.cells #[.int .u8 (x.toNat : Int), .string sv] 46) hg)
              have HSto := Lib.hid (fun w3 v' h3 h4 h5 h6 h7 => RF.store (w := w) (g := g) (W5 := W5) (tg := stg) (ix := si) (sv := .slice ao n cp) (au := au) (L := L) (sv' := v') (w3 := w3) (x := (x, v)) hlt5 hglt h3 h4 h5 h6 h7)
              rw [hLn] at HSto
              unfold encS at HSto
              simp only at HSto
              rw [hsv] at HSto
              have hn1 : n + 1 ≤ 1000000 := by omega
              have hwr1 : IntKind.i64.wrap ((k : Int) + 1) = (k : Int) + 1 := by rw [IntKind.wrap_i64]; omega
              have hwr2 : IntKind.i64.wrap ((k : Int) + 2) = (k : Int) + 2 := by rw [IntKind.wrap_i64]; omega
              clear hsv hx hv hND hpz HBad HMore HD HN hbk hlt5 hglt
              go_upto_region 9 with fail
              go_region_law (first
                | (refine step_append_sub _ (by rfl) _ _ (by rfl) W5.heap.size _ n L (by rfl) hrow (.int .u8 (x.toNat : Int)) (.string sv) rfl rfl ⟨wr.heap.size, 0, none⟩ (by rfl) hcl2 hn1 hbs ?_; intro g3 cap3 w3 hown3 hgrow3; have hA3 := HApp.out w3 hgrow3; have y2 : w3.cell? ⟨g, 2, none⟩ = some (.slice ao n cp) := (by rw [Lib.cell_of_heap hA3.1]; rfl); have y3 := Lib.frozen_of_heap hA3.1 2; have HA3 := Lib.hid hA3; have HO3 := Lib.hid hown3; clear hA3 hown3 hgrow3))
              all_goals
                have HO4 := Lib.hid (HSto.out w3 _ HA3.out.1 HA3.out.2.1 HA3.out.2.2.1 HA3.out.2.2.2 HO3.out)
                clear HA3 HO3 HSto HApp hrow hcl2 hbs f0 f1 f2 f3 f2a z0 z1 z2 z3
                go_wp2
                go_roundw
                case rel => exact ⟨k + 2 + st, n + 1, L ++ [(x, v)], _, _, by go_num, by omega, by omega, by rw [List.length_append, hLn]; rfl, by omega, HD2, HO4⟩
                case measure => simp [intOf]; omega
        · have HEnd : RowKit.Hid (fldG tag l = some ⟨tag, l.take 2, L, au⟩) := by
            unfold RowKit.Hid
            rw [HF.out, HD.out, subG_end _ (.inr (by rw [getD_drop, Nat.add_zero]; exact h31))]
            simp
          have t31 : ¬ ((l.getD k 0).toNat : Int) = 31 := fun h => h31 ((u8_int _ 31 (by decide)).1 h)
          have t32 : decide (((l.getD k 0).toNat : Int) = 31) = false := decide_eq_false t31
          have t33 : (((l.getD k 0).toNat : Int) == 31) = false := by simpa using t31
          obtain ⟨⟨f0, f1, f2, f3⟩, ⟨z0, z1, z2, z3⟩, ⟨r0, r1, r2, r3⟩, y0, y1, y2, y3⟩ := HN.out.cells
          obtain ⟨hfin, hnew, hexc⟩ := HN.out.ret
          have hgne : (w.heap.size : Nat) ≠ g := by have := HN.out.lt; omega
          unfold setF4 at hfin hnew hexc
          clear h31 HN HD
          generalize ((l.getD k 0).toNat : Int) = c at *
          go_wp2
          refine bodyPost_ret (results_row_tmp10 rfl _ _ w.heap.size _ _ _ _ rfl hfin.out Tryd.underlying49 rfl (by kernel_rfl)) rfl ?_
          exact HQ.out _ _ ⟨⟨tag, l.take 2, L, au⟩, _, true, by unfold FV; rw [HStg.out, HSi.out]; rfl, hexc.out, hnew.out, .inl ⟨HEnd.out, rfl⟩⟩
      · obtain rfl : k = z := by omega
        have HEnd : RowKit.Hid (fldG tag l = some ⟨tag, l.take 2, L, au⟩) := by
          unfold RowKit.Hid
          rw [HF.out, HD.out, subG_end _ (.inl (by rw [List.length_drop, HZ.out]; omega))]
          simp
        obtain ⟨⟨f0, f1, f2, f3⟩, ⟨z0, z1, z2, z3⟩, ⟨r0, r1, r2, r3⟩, y0, y1, y2, y3⟩ := HN.out.cells
        obtain ⟨hfin, hnew, hexc⟩ := HN.out.ret
        have hgne : (w.heap.size : Nat) ≠ g := by have := HN.out.lt; omega
        unfold setF4 at hfin hnew hexc
        clear HN HD
        go_wp2
        refine bodyPost_ret (results_row_tmp10 rfl _ _ w.heap.size _ _ _ _ rfl hfin.out Tryd.underlying49 rfl (by kernel_rfl)) rfl ?_
        exact HQ.out _ _ ⟨⟨tag, l.take 2, L, au⟩, _, true, by unfold FV; rw [HStg.out, HSi.out]; rfl, hexc.out, hnew.out, .inl ⟨HEnd.out, rfl⟩⟩
end

end Go.Proofs.YtiledacfdaenbaaDoor

/- Merged: SF08, PD08, PE08. -/
import Derived.Test.YtcnjjdbpcobolaaGreatDoorQ27
import Derived.Test.YtcnjjdbpcobolaaGreatDoorQ17
import Derived.Laws.CopyOwn
import Derived.Laws.IdiomCopy
import Derived.Deep.RegionLaw
namespace Go.Proofs.YtcnjjdbpcobolaaGreatDoor

section
open Go.RowKit Go.PlainAid Go.Sort Go.Lib
theorem lt_of_kc (x y : FU) : ltOf (kc keyP) x y = decide (kc keyP x y < 0) := rfl
/-- slices.insertionSortCmpFunc of a part. -/
theorem insertion_any (w0 : World) (blk N cap : Nat) (d0 : Array FU) (hd : d0.size = N) (hN : N ≤ 100000) (R : RowK encP 4 w0 blk 0 d0) (A X Z : List FU) (a b : Nat) (ha : A.length = a) (hb : a + X.length = b) (hl : b + Z.length = N) (w : World) (hS : SP4 w0 blk (A ++ (X ++ Z)) w) :
    Calls Tryz.prog 103 #[.slice (some ⟨blk, 0, none⟩) N cap, .int .i64 (a : Int), .int .i64 (b : Int), .func (.func 50) #[] #[]] w fun e w' => e = .returned (.tuple #[]) ∧ ∃ M, Stab keyP M X ∧ SP4 w0 blk (A ++ (M ++ Z)) w' := by
  obtain ⟨M, hM, hI⟩ := insertion_list keyP (ltOf (kc keyP)) lt_of_kc A X Z
  rw [ha, hb] at hI
  have hsz : (A ++ (X ++ Z)).toArray.size = N := by rw [List.size_toArray]; simp; omega
  have hszM : (A ++ (M ++ Z)).toArray.size = N := by rw [List.size_toArray]; simp [hM.keep.len]; omega
  have hC : CmpLays Tryz.prog 50 #[] encP 4 (kc keyP) blk 0 (A ++ (X ++ Z)).toArray.size w := fun m os dk hdk x y => closure_any x y _
  have hHo : HoldsK encP 4 w blk 0 (A ++ (X ++ Z)).toArray := SWK.holds hS R.hblk R.hH (by rw [hsz, hd])
  have hcon := AnyQ.insertionSortCmpFunc Tryz.insE 4 Tryz.isAgg35 Tryz.sizeOf35 encP R.hk R.h1 (kc keyP) 50 #[] blk 0 cap a b (A ++ (X ++ Z)).toArray w (enters_of Tryz.func50 (by kernel_rfl) rfl) hC hHo (SWK.lt hS R.hblk) (by omega) (by rw [hsz]; omega) (by rw [hsz]; omega)
  rw [hsz, hI] at hcon
  refine hcon.mono ?_
  rintro e w' ⟨rfl, n, os, rfl⟩
  exact ⟨rfl, M, hM, SWK.on hS R.hblk n _ os (by rw [hszM, hsz])⟩

theorem cut2 {α : Type} (D : List α) (p q : Nat) : D.take p ++ ((D.drop p).take q ++ D.drop (p + q)) = D := by
  rw [← List.drop_drop, List.take_append_drop, List.take_append_drop]
theorem cut3 {α : Type} (D : List α) (p q r : Nat) : D.take p ++ ((D.drop p).take q ++ ((D.drop (p + q)).take r ++ D.drop (p + q + r))) = D := by
  rw [← List.drop_drop (i := r), List.take_append_drop, cut2]
/-- The first blocks are sorted. -/
def I1 (w0 : World) (blk N : Nat) (L : List FU) (j : Nat) (W : World) : Prop := ∃ D : List FU, D.length = N ∧ Keep keyP D L ∧ Blk keyP 20 j D ∧ SP4 w0 blk D W
/-- Blocks of twice the size up to a place, of this size from there on. -/
def I2 (w0 : World) (blk N : Nat) (L : List FU) (bs j : Nat) (W : World) : Prop := ∃ D : List FU, D.length = N ∧ Keep keyP D L ∧ Mix keyP bs j D ∧ SP4 w0 blk D W
section
variable {w0 : World} {blk N : Nat} (cap : Nat) {d0 : Array FU} (hd : d0.size = N) (hN : N ≤ 100000) (R : RowK encP 4 w0 blk 0 d0) {L : List FU}
include hd hN R
theorem I1.step {j : Nat} {W : World} (h : I1 w0 blk N L j W) (hj : 20 * j + 20 ≤ N) :
    Calls Tryz.prog 103 #[.slice (some ⟨blk, 0, none⟩) N cap, .int .i64 (20 * (j : Int)), .int .i64 (20 * (j : Int) + 20), .func (.func 50) #[] #[]] W fun e w' => e = .returned (.tuple #[]) ∧ I1 w0 blk N L (j + 1) w' := by
  obtain ⟨D, h1, h2, h3, h4⟩ := h
  have e := cut2 D (20 * j) 20
  rw [← e] at h2 h3 h4
  have hA : (D.take (20 * j)).length = 20 * j := by rw [List.length_take]; omega
  have hX : ((D.drop (20 * j)).take 20).length = 20 := by rw [List.length_take, List.length_drop]; omega
  have hZ : (D.drop (20 * j + 20)).length = N - (20 * j + 20) := by rw [List.length_drop, h1]
  have hc := insertion_any w0 blk N cap d0 hd hN R _ _ _ (20 * j) (20 * j + 20) hA (by rw [hX]) (by rw [hZ]; omega) W h4
  rw [show ((20 * j : Nat) : Int) = 20 * (j : Int) by omega, show ((20 * j + 20 : Nat) : Int) = 20 * (j : Int) + 20 by omega] at hc
  refine hc.mono fun e w' hh => ⟨hh.1, ?_⟩
  obtain ⟨M, g1, g2⟩ := hh.2
  refine ⟨_, ?_, g1.keep.mid h2, h3.step (by rw [hA]; omega) hX g1, g2⟩
  rw [List.length_append, List.length_append, hA, g1.keep.len, hX, hZ]
  omega
theorem I1.last {j : Nat} {W : World} (h : I1 w0 blk N L j W) (hj : 20 * j ≤ N) (hj2 : N < 20 * j + 20) :
    Calls Tryz.prog 103 #[.slice (some ⟨blk, 0, none⟩) N cap, .int .i64 (20 * (j : Int)), .int .i64 (N : Int), .func (.func 50) #[] #[]] W fun e w' => e = .returned (.tuple #[]) ∧ I2 w0 blk N L 20 0 w' := by
  obtain ⟨D, h1, h2, h3, h4⟩ := h
  have e : D.take (20 * j) ++ (D.drop (20 * j) ++ []) = D := by rw [List.append_nil, List.take_append_drop]
  have e2 : D.take (20 * j) ++ D.drop (20 * j) = D := List.take_append_drop _ _
  rw [← e] at h4
  rw [← e2] at h2 h3
  have hA : (D.take (20 * j)).length = 20 * j := by rw [List.length_take]; omega
  have hX : (D.drop (20 * j)).length = N - 20 * j := by rw [List.length_drop, h1]
  have hc := insertion_any w0 blk N cap d0 hd hN R _ _ _ (20 * j) N hA (by rw [hX]; omega) (by simp) W h4
  rw [show ((20 * j : Nat) : Int) = 20 * (j : Int) by omega] at hc
  refine hc.mono fun e w' hh => ⟨hh.1, ?_⟩
  obtain ⟨M, g1, g2⟩ := hh.2
  rw [List.append_nil] at g2
  refine ⟨_, ?_, ?_, h3.last (by rw [hA]; omega) (by rw [hX]; omega) g1, g2⟩
  · rw [List.length_append, hA, g1.keep.len, hX]; omega
  · exact ((Keep.refl keyP (D.take (20 * j))).app g1.keep).trans h2
theorem I2.step {bs j p : Nat} {W : World} (h : I2 w0 blk N L bs j W) (hp : p = j * (2 * bs)) (hb : 0 < bs) (hj : p + 2 * bs ≤ N) :
    Calls Tryz.prog 104 #[.slice (some ⟨blk, 0, none⟩) N cap, .int .i64 (p : Int), .int .i64 ((p : Int) + (bs : Int)), .int .i64 ((p : Int) + 2 * (bs : Int)), .func (.func 50) #[] #[]] W fun e w' => e = .returned (.tuple #[]) ∧ I2 w0 blk N L bs (j + 1) w' := by
  obtain ⟨D, h1, h2, h3, h4⟩ := h
  have e := cut3 D p bs bs
  rw [← e] at h2 h3 h4
  have hA : (D.take p).length = p := by rw [List.length_take]; omega
  have hX : ((D.drop p).take bs).length = bs := by rw [List.length_take, List.length_drop]; omega
  have hY : ((D.drop (p + bs)).take bs).length = bs := by rw [List.length_take, List.length_drop]; omega
  have hZ : (D.drop (p + bs + bs)).length = N - (p + bs + bs) := by rw [List.length_drop, h1]
  obtain ⟨s1, s2⟩ := h3.parts (by rw [hA, hp]) hX (.inl hY)
  have hc := merges_all w0 blk N cap d0 hd hN R _ _ _ (Nat.le_refl _) _ _ p (p + bs) (p + 2 * bs) hA (by rw [hX]) (by rw [hY]; omega) (by rw [hZ]; omega) (by rw [hX]; exact hb) (by rw [hY]; exact hb) s1 s2 W h4
  rw [show ((p + bs : Nat) : Int) = (p : Int) + (bs : Int) by omega, show ((p + 2 * bs : Nat) : Int) = (p : Int) + 2 * (bs : Int) by omega] at hc
  refine hc.mono fun e w' hh => ⟨hh.1, ?_⟩
  obtain ⟨M, g1, g2⟩ := hh.2
  refine ⟨_, ?_, ?_, h3.step (by rw [hA, hp]) hX (.inl hY) g1, g2⟩
  · rw [List.length_append, List.length_append, hA, g1.keep.len, List.length_append, hX, hY, hZ]; omega
  · exact g1.keep.mid (by rwa [List.append_assoc])
theorem I2.last {bs j p : Nat} {W : World} (h : I2 w0 blk N L bs j W) (hp : p = j * (2 * bs)) (hb : 0 < bs) (hj : p + bs < N) (hj2 : N ≤ p + 2 * bs) :
    Calls Tryz.prog 104 #[.slice (some ⟨blk, 0, none⟩) N cap, .int .i64 (p : Int), .int .i64 ((p : Int) + (bs : Int)), .int .i64 (N : Int), .func (.func 50) #[] #[]] W fun e w' => e = .returned (.tuple #[]) ∧ I2 w0 blk N L bs (j + 1) w' := by
  obtain ⟨D, h1, h2, h3, h4⟩ := h
  have e : D.take p ++ ((D.drop p).take bs ++ (D.drop (p + bs) ++ [])) = D := by rw [List.append_nil, cut2]
  rw [← e] at h2 h3 h4
  have hA : (D.take p).length = p := by rw [List.length_take]; omega
  have hX : ((D.drop p).take bs).length = bs := by rw [List.length_take, List.length_drop]; omega
  have hY : (D.drop (p + bs)).length = N - (p + bs) := by rw [List.length_drop, h1]
  obtain ⟨s1, s2⟩ := h3.parts (by rw [hA, hp]) hX (.inr ⟨by rw [hY]; omega, rfl⟩)
  have hc := merges_all w0 blk N cap d0 hd hN R _ _ _ (Nat.le_refl _) _ _ p (p + bs) N hA (by rw [hX]) (by rw [hY]; omega) (by simp) (by rw [hX]; exact hb) (by rw [hY]; omega) s1 s2 W h4
  rw [show ((p + bs : Nat) : Int) = (p : Int) + (bs : Int) by omega] at hc
  refine hc.mono fun e w' hh => ⟨hh.1, ?_⟩
  obtain ⟨M, g1, g2⟩ := hh.2
  refine ⟨_, ?_, ?_, h3.step (by rw [hA, hp]) hX (.inr ⟨by rw [hY]; omega, rfl⟩) g1, g2⟩
  · rw [List.length_append, List.length_append, hA, g1.keep.len, List.length_append, hX, hY, List.length_nil]; omega
  · exact g1.keep.mid (by rwa [List.append_assoc])
omit hd hN R in
theorem I2.rest {bs j p : Nat} {W : World} (h : I2 w0 blk N L bs j W) (hp : p = j * (2 * bs)) (hj : N ≤ p + bs) : I2 w0 blk N L bs (j + 1) W := by
  obtain ⟨D, h1, h2, h3, h4⟩ := h
  exact ⟨D, h1, h2, h3.rest (by omega), h4⟩
omit hd hN R in
theorem I2.next {bs j p : Nat} {W : World} (h : I2 w0 blk N L bs (j + 1) W) (hp : p = j * (2 * bs)) (hj : N ≤ p + 2 * bs) : I2 w0 blk N L (2 * bs) 0 W := by
  obtain ⟨D, h1, h2, h3, h4⟩ := h
  exact ⟨D, h1, h2, h3.next (by rw [Nat.succ_mul]; omega), h4⟩
omit hd hN R in
theorem I2.all {bs : Nat} {W : World} (h : I2 w0 blk N L bs 0 W) (hj : N ≤ bs) : ∃ M, Stab keyP M L ∧ SP4 w0 blk M W := by
  obtain ⟨D, h1, h2, h3, h4⟩ := h
  exact ⟨D, ⟨h2, h3.all (by omega)⟩, h4⟩
end

set_option maxHeartbeats 8000000 in
set_option maxRecDepth 100000 in
theorem stable_any (w0 : World) (blk N cap : Nat) (d0 : Array FU) (hd : d0.size = N) (hN : N ≤ 100000) (R : RowK encP 4 w0 blk 0 d0) (L : List FU) (hL : L.length = N) (w : World) (hS : SP4 w0 blk L w) :
    Calls Tryz.prog 76 #[.slice (some ⟨blk, 0, none⟩) N cap, .int .i64 (N : Int), .func (.func 50) #[] #[]] w fun e w' => e = .returned (.tuple #[]) ∧ ∃ M, Stab keyP M L ∧ SP4 w0 blk M w' := by
  have h0 : I1 w0 blk N L 0 w := ⟨L, hL, Keep.refl keyP L, (fun i hi => by omega), hS⟩
  have H0 := Lib.hid h0
  have HStep := Lib.hid (fun j W (h : I1 w0 blk N L j W) hj => h.step cap hd hN R hj)
  have HLast := Lib.hid (fun j W (h : I1 w0 blk N L j W) hj hj2 => h.last cap hd hN R hj hj2)
  have HStep2 := Lib.hid (fun bs j p W (h : I2 w0 blk N L bs j W) hp hb hj => h.step cap hd hN R (p := p) hp hb hj)
  have HLast2 := Lib.hid (fun bs j p W (h : I2 w0 blk N L bs j W) hp hb hj hj2 => h.last cap hd hN R (p := p) hp hb hj hj2)
  clear h0 hS R hd
  go_enter Tryz.func76, Tryz.ntmps76
  go_wp2
  go_loopw [7, 8] (fun va vb wr => ∃ j : Nat, va = .int .i64 (20 * (j : Int)) ∧ vb = .int .i64 (20 * (j : Int) + 20) ∧ 20 * j ≤ N ∧ RowKit.Hid (I1 w0 blk N L j wr)) (fun va _ _ => N - (intOf va).toNat)
  case atStart => exact ⟨0, by go_num, by go_num, by omega, H0⟩
  case round =>
    obtain ⟨j, rfl, rfl, hjN, hI⟩ := hrel
    by_cases hlt : 20 * j + 20 ≤ N
    · have e1 : 20 * (j : Int) + 20 ≤ (N : Int) := by omega
      have HC := Lib.hid (HStep.out j wr hI.out hlt)
      go_wp2_with fail
      refine (HC.out).mono ?_
      rintro e w2 ⟨rfl, g⟩
      have G := Lib.hid g
      go_wp2
      go_roundw
      case rel => exact ⟨j + 1, by go_num, by go_num, by omega, G⟩
      case measure => simp [intOf]; omega
    · have e1 : ¬ (20 * (j : Int) + 20 ≤ (N : Int)) := by omega
      have HC := Lib.hid (HLast.out j wr hI.out hjN (by omega))
      go_wp2_with fail
      refine (HC.out).mono ?_
      rintro e w2 ⟨rfl, g⟩
      have G := Lib.hid g
      clear HC hI HStep HLast g
      go_wp2
      go_loopw [6] (fun vb wr => ∃ bs : Nat, vb = .int .i64 (bs : Int) ∧ 0 < bs ∧ bs ≤ 400000 ∧ RowKit.Hid (I2 w0 blk N L bs 0 wr)) (fun vb _ => N - (intOf vb).toNat)
      case atStart => exact ⟨20, rfl, by omega, by omega, G⟩
      case round =>
        obtain ⟨bs, rfl, hb0, hb1, hI⟩ := hrel
        by_cases hlt2 : bs < N
        · have e2 : (bs : Int) < (N : Int) := by omega
          have e3 : IntKind.i64.wrap (2 * (bs : Int)) = 2 * (bs : Int) := by rw [IntKind.wrap_i64]; omega
          have HI0 := Lib.hid hI.out
          clear hI
          go_wp2
          go_loopw [7, 8] (fun va vb wr => ∃ j p : Nat, va = .int .i64 (p : Int) ∧ vb = .int .i64 ((p : Int) + 2 * (bs : Int)) ∧ RowKit.Hid (p = j * (2 * bs)) ∧ p ≤ N ∧ RowKit.Hid (I2 w0 blk N L bs j wr)) (fun va _ _ => N - (intOf va).toNat)
          case atStart => exact ⟨0, 0, rfl, by go_num, by simp [RowKit.Hid], by omega, HI0⟩
          case round =>
            obtain ⟨j, p, rfl, rfl, hp, hpN, hI⟩ := hrel
            by_cases hlt3 : p + 2 * bs ≤ N
            · have e4 : (p : Int) + 2 * (bs : Int) ≤ (N : Int) := by omega
              have HC := Lib.hid (HStep2.out bs j p wr hI.out hp.out hb0 hlt3)
              have hp2 : RowKit.Hid (p + 2 * bs = (j + 1) * (2 * bs)) := by unfold RowKit.Hid; rw [Nat.succ_mul j (2 * bs), ← hp.out]
              go_wp2_with fail
              refine (HC.out).mono ?_
              rintro e w2 ⟨rfl, g⟩
              have G := Lib.hid g
              clear HC hI g
              go_wp2
              go_roundw
              case rel => exact ⟨j + 1, p + 2 * bs, by go_num, by go_num, hp2, by omega, G⟩
              case measure => simp [intOf]; omega
            · have e4 : ¬ ((p : Int) + 2 * (bs : Int) ≤ (N : Int)) := by omega
              by_cases hlt4 : p + bs < N
              · have e5 : (p : Int) + (bs : Int) < (N : Int) := by omega
                have HC := Lib.hid (HLast2.out bs j p wr hI.out hp.out hb0 hlt4 (by omega))
                go_wp2_with fail
                refine (HC.out).mono ?_
                rintro e w2 ⟨rfl, g⟩
                have G := Lib.hid (g.next hp.out (by omega))
                clear HC hI g
                go_wp2
                go_roundw
                case rel => exact ⟨2 * bs, by go_num, by omega, by omega, G⟩
                case measure => simp [intOf]; omega
              · have e5 : ¬ ((p : Int) + (bs : Int) < (N : Int)) := by omega
                have G := Lib.hid ((hI.out.rest hp.out (by omega)).next hp.out (by omega))
                clear hI
                go_wp2
                go_roundw
                case rel => exact ⟨2 * bs, by go_num, by omega, by omega, G⟩
                case measure => simp [intOf]; omega
        · have e2 : ¬ ((bs : Int) < (N : Int)) := by omega
          have HF := Lib.hid (hI.out.all (by omega))
          clear hI
          go_wp2
          go_end0
          exact ⟨rfl, HF.out⟩

set_option maxHeartbeats 4000000 in
theorem sortStable_any (w0 : World) (blk N cap : Nat) (d0 : Array FU) (hd : d0.size = N) (hN : N ≤ 100000) (R : RowK encP 4 w0 blk 0 d0) (L : List FU) (hL : L.length = N) (w : World) (hS : SP4 w0 blk L w) :
    Calls Tryz.prog 49 #[.slice (some ⟨blk, 0, none⟩) N cap, .func (.func 50) #[] #[]] w fun e w' => e = .returned (.tuple #[]) ∧ ∃ M, Stab keyP M L ∧ SP4 w0 blk M w' := by
  have HC := Lib.hid (stable_any w0 blk N cap d0 hd hN R L hL w hS)
  clear hS R hd hL
  go_enter Tryz.func49, Tryz.ntmps49
  go_wp2_with fail
  refine (HC.out).mono ?_
  rintro e w2 ⟨rfl, g⟩
  go_wp2
  go_end0
  exact ⟨rfl, g⟩
end

section
open Go.RowKit Go.PlainAid
theorem heap_setCells_at {g : Nat} {t : TypeId} {fr : Nat × Nat} : ∀ (zs : List Value) (o : Nat) (w : World) (cs : List Value), w.heap[g]? = some (.cells cs.toArray t fr) → o + zs.length ≤ cs.length → (w.setCells g o zs).heap[g]? = some (.cells (splice cs o zs).toArray t fr)
  | [], o, w, cs, h, _ => by simpa [splice, World.setCells] using h
  | z :: zs, o, w, cs, h, hl => by
    simp only [List.length_cons] at hl
    have h1 : (w.setCell ⟨g, o, none⟩ z).heap[g]? = some (.cells (cs.set o z).toArray t fr) := by simp [World.setCell, Array.getElem?_modify, h]
    have := heap_setCells_at zs (o + 1) (w.setCell ⟨g, o, none⟩ z) (cs.set o z) h1 (by rw [List.length_set]; omega)
    have e := list_seg_step cs o z zs hl
    unfold splice at this ⊢
    rw [← List.append_assoc, e] at this
    rw [show (z :: zs).length = zs.length + 1 from rfl, ← List.append_assoc]
    exact this
theorem take_splice {α : Type} (cs : List α) (o : Nat) (zs : List α) (h : o + zs.length ≤ cs.length) : (splice cs o zs).take (o + zs.length) = cs.take o ++ zs := by
  unfold splice
  rw [← List.append_assoc]
  exact List.take_left' (by rw [List.length_append, List.length_take]; omega)
theorem take_splice_low {α : Type} (cs : List α) (o k : Nat) (zs : List α) (h : k ≤ o) (hl : o ≤ cs.length) : (splice cs o zs).take k = cs.take k := by
  unfold splice
  rw [List.take_append_of_le_length (by rw [List.length_take]; omega), List.take_take, Nat.min_eq_left h]
/-- A row of fields, cell by cell. -/
structure RawF (V : World) (B g cap : Nat) (cs us : List Value) (L : List Fld) (w : World) : Prop where
  ul : us.length = L.length
  hB : B ≤ g
  hg : w.heap[g]? = some (.cells cs.toArray 35 (0, 0))
  hc : L.length ≤ cap
  hm : cap ≤ maxLen
  hl : cs.length = cap * 4
  ht : cs.take (L.length * 4) = cellsF L us
  hq : ∀ i, i < L.length → QL (us.getD i .nilIface) (L.getD i fd0).subs V
theorem FR.raw {V : World} {B : Nat} {v : Value} {L : List Fld} {w : World} (h : FR V B v L w) (hn : 0 < L.length) : ∃ g cap cs us, v = .slice (some ⟨g, 0, none⟩) L.length cap ∧ RawF V B g cap cs us L w := by
  obtain ⟨us, hl, hown, hq⟩ := h
  rcases hown.2 with ⟨rfl, h0⟩ | ⟨g, cap, cur, rfl, hb, hg, hc, hm, hs, ht⟩
  · omega
  · exact ⟨g, cap, cur.toList, us, rfl, hl, hb, by simpa using hg, hc, hm, by simpa using hs, ht, hq⟩
theorem RawF.fr {V : World} {B g cap : Nat} {cs us : List Value} {L : List Fld} {w : World} (h : RawF V B g cap cs us L w) : FR V B (.slice (some ⟨g, 0, none⟩) L.length cap) L w :=
  ⟨us, h.ul, ⟨cellsF_length L us h.ul, .inr ⟨g, cap, cs.toArray, rfl, h.hB, h.hg, h.hc, h.hm, by simpa using h.hl, by simpa using h.ht⟩⟩, h.hq⟩
theorem RawF.cell {V : World} {B g cap : Nat} {cs us : List Value} {L : List Fld} {w : World} (h : RawF V B g cap cs us L w) (p : Nat) (hp : p < cap * 4) : (w.cell? ⟨g, p, none⟩).isSome = true ∧ w.frozen? ⟨g, p, none⟩ = false := by
  refine ⟨?_, Lib.frozen_of_heap h.hg p⟩
  rw [Lib.cell_of_heap h.hg]
  have : p < cs.length := by rw [h.hl]; exact hp
  simp [this]
theorem cellsF_take : ∀ (L : List Fld) (us : List Value) (k : Nat), us.length = L.length → (cellsF L us).take (k * 4) = cellsF (L.take k) (us.take k)
  | [], us, k, h => by simp [cellsF]
  | f :: s, [], k, h => by simp at h
  | f :: s, x :: xs, 0, h => by simp [cellsF]
  | f :: s, x :: xs, k + 1, h => by
    have ih := cellsF_take s xs k (by simpa using h)
    have e : cellsF (f :: s) (x :: xs) = .string (S f.tag) :: .string (S f.ind) :: x :: .int .i64 f.auth :: cellsF s xs := rfl
    have e2 : cellsF (f :: s.take k) (x :: xs.take k) = .string (S f.tag) :: .string (S f.ind) :: x :: .int .i64 f.auth :: cellsF (s.take k) (xs.take k) := rfl
    rw [List.take_succ_cons, List.take_succ_cons, e2, ← ih, e, show (k + 1) * 4 = k * 4 + 1 + 1 + 1 + 1 by omega]
    rfl
theorem cellsF_drop : ∀ (L : List Fld) (us : List Value) (k : Nat), us.length = L.length → (cellsF L us).drop (k * 4) = cellsF (L.drop k) (us.drop k)
  | [], us, k, h => by simp [cellsF]
  | f :: s, [], k, h => by simp at h
  | f :: s, x :: xs, 0, h => by simp
  | f :: s, x :: xs, k + 1, h => by
    have ih := cellsF_drop s xs k (by simpa using h)
    have e : cellsF (f :: s) (x :: xs) = .string (S f.tag) :: .string (S f.ind) :: x :: .int .i64 f.auth :: cellsF s xs := rfl
    rw [List.drop_succ_cons, List.drop_succ_cons, ← ih, e, show (k + 1) * 4 = k * 4 + 1 + 1 + 1 + 1 by omega]
    rfl
theorem RawF.at {V : World} {B g cap : Nat} {cs us : List Value} {L : List Fld} {w : World} (h : RawF V B g cap cs us L w) (p : Nat) (u : Value) (hu : (cellsF L us)[p]? = some u) : w.cell? ⟨g, p, none⟩ = some u := by
  rw [Lib.cell_of_heap h.hg]
  have hp : p < (cellsF L us).length := (List.getElem?_eq_some_iff.1 hu).1
  rw [cellsF_length L us h.ul] at hp
  rw [← h.ht, List.getElem?_take_of_lt hp] at hu
  simpa using hu
theorem addF (g o j : Nat) : (⟨g, o, none⟩ : Addr).add j = ⟨g, o + j, none⟩ := by unfold Addr.add; split <;> simp_all
/-- clear of one field. -/
theorem run_clearF (w : World) (b o c : Nat) (hc : ∀ j, j < 4 → (w.cell? ⟨b, o + j, none⟩).isSome = true) (hf : ∀ j, j < 4 → w.frozen? ⟨b, o + j, none⟩ = false) :
    ∃ zs : List Value, zs.length = 4 ∧ ∀ ty, (Builtin.clear_ #[22] ty #[.slice (some ⟨b, o, none⟩) 1 c]).run Tryz.prog w = .ok (.tuple #[]) (w.setCells b o zs) := by
  obtain ⟨zs, hzs⟩ : ∃ zs, (Builtin.zeroCells #[.string ⟨#[]⟩, .string ⟨#[]⟩, .slice none 0 0, .int .i64 0] 1).toList = zs := ⟨_, rfl⟩
  have hl : zs.length = 4 := by rw [← hzs]; simp [Builtin.zeroCells]
  have hone : ∀ v ∈ zs, v.oneCell' = true := by
    intro v hv
    rw [← hzs] at hv
    simp only [Builtin.zeroCells, Array.toList_map, Array.toList_range, List.mem_map] at hv
    obtain ⟨i, _, rfl⟩ := hv
    have : i % 4 = 0 ∨ i % 4 = 1 ∨ i % 4 = 2 ∨ i % 4 = 3 := by omega
    have hs : (#[Value.string ⟨#[]⟩, Value.string ⟨#[]⟩, Value.slice none 0 0, Value.int .i64 0] : Array Value).size = 4 := rfl
    rw [hs]
    rcases this with h | h | h | h <;> rw [h] <;> rfl
  refine ⟨zs, hl, fun ty => ?_⟩
  have hst := run_storeCells_cells (P := Tryz.prog) b o zs 0 w (by simpa [hl] using hc) (by simpa [hl] using hf) hone
  simp only [Nat.add_zero] at hst
  have hv : ∀ w, (zeroValue 35).run Tryz.prog w = .ok (.agg #[.string ⟨#[]⟩, .string ⟨#[]⟩, .slice none 0 0, .int .i64 0]) w := fun w => by kernel_rfl
  have hcells : (Value.agg #[.string ⟨#[]⟩, .string ⟨#[]⟩, .slice none 0 0, .int .i64 0]).cells = #[.string ⟨#[]⟩, .string ⟨#[]⟩, .slice none 0 0, .int .i64 0] := by rfl
  simp [Builtin.clear_, run_underlying Tryz.underlying22, hv, hcells, hzs, hst]
theorem setCells_below {B g : Nat} (hB : B ≤ g) : ∀ (zs : List Value) (o : Nat) (a w : World), Below B a w → Below B a (w.setCells g o zs)
  | [], _, _, _, h => h
  | z :: zs, o, a, w, h => setCells_below hB zs (o + 1) a (w.setCell ⟨g, o, none⟩ z) (h.setCell (p := ⟨g, o, none⟩) hB z)

set_option maxHeartbeats 16000000 in
set_option maxRecDepth 100000 in
theorem fdelete_any (V : World) (B : Nat) (L : List Fld) (v : Value) (w : World) (hfr : FR V B v L w) (k : Nat) (hk : k < L.length) (hs : L.length ≤ 100000) :
    Calls Tryz.prog 48 #[v, .int .i64 (k : Int), .int .i64 ((k : Int) + 1)] w fun e w' => ∃ v', e = .returned v' ∧ FR V B v' (remL L k) w' ∧ Below B w w' := by
  obtain ⟨g, cap, cs, us, rfl, hr⟩ := hfr.raw (by omega)
  obtain ⟨m, hm⟩ : ∃ m, L.length = k + 1 + m := ⟨L.length - (k + 1), by omega⟩
  have hcap := hr.hc
  have hmax := hr.hm
  unfold maxLen at hmax
  rw [hm] at hcap hs ⊢
  obtain ⟨i0, hi, hz0, hz1, hz2⟩ := info_fld
  have hnews : ((cellsF L us).drop ((k + 1) * 4)).length = m * 4 := by rw [List.length_drop, cellsF_length L us hr.ul, hm]; omega
  -- what lies behind the append
  have hw1 := heap_setCells_at ((cellsF L us).drop ((k + 1) * 4)) (k * 4) w.drew cs (show w.drew.heap[g]? = _ from hr.hg) (by rw [hnews, hr.hl]; omega)
  have hl1 : (splice cs (k * 4) ((cellsF L us).drop ((k + 1) * 4))).length = cap * 4 := by rw [length_splice _ _ _ (by rw [hnews, hr.hl]; omega), hr.hl]
  have ht1 := take_splice cs (k * 4) ((cellsF L us).drop ((k + 1) * 4)) (by rw [hnews, hr.hl]; omega)
  obtain ⟨w1, hw1e⟩ : ∃ w1, w.drew.setCells g (k * 4) ((cellsF L us).drop ((k + 1) * 4)) = w1 := ⟨_, rfl⟩
  rw [hw1e] at hw1
  have hb1 : Below B w w1 := by rw [← hw1e]; exact setCells_below hr.hB _ _ _ _ (Below.refl B w).drew
  have hrl : (remL L k).length = k + m := by have := remL_len L k hk; omega
  have R1 : RawF V B g cap (splice cs (k * 4) ((cellsF L us).drop ((k + 1) * 4))) (us.take k ++ us.drop (k + 1)) (remL L k) w1 := by
    have hul := hr.ul
    have hlt : (us.take k).length = (L.take k).length := by rw [List.length_take, List.length_take, hul]
    refine ⟨?_, hr.hB, hw1, by rw [hrl]; omega, hr.hm, hl1, ?_, fun i hi => ?_⟩
    · rw [hrl, List.length_append, List.length_take, List.length_drop]; omega
    · rw [hrl, show (k + m) * 4 = k * 4 + ((cellsF L us).drop ((k + 1) * 4)).length by rw [hnews]; omega, ht1]
      unfold remL
      rw [cellsF_app _ _ _ _ hlt, ← cellsF_take L us k hul, ← cellsF_drop L us (k + 1) hul]
      congr 1
      rw [← hr.ht, List.take_take, Nat.min_eq_left (by omega)]
    · unfold remL at hi ⊢
      rw [getD_app, getD_appF]
      rw [List.length_append] at hi
      rw [hlt]
      by_cases h1 : i < (L.take k).length
      · rw [if_pos h1, if_pos h1]
        rw [List.length_take] at h1
        have := hr.hq i (by omega)
        rwa [List.getD_eq_getElem?_getD, List.getD_eq_getElem?_getD, List.getElem?_take_of_lt (by omega), List.getElem?_take_of_lt (by omega), ← List.getD_eq_getElem?_getD, ← List.getD_eq_getElem?_getD]
      · rw [if_neg h1, if_neg h1]
        rw [List.length_take] at h1 hi ⊢
        rw [List.length_drop] at hi
        have := hr.hq (k + 1 + (i - min k L.length)) (by omega)
        rwa [List.getD_eq_getElem?_getD, List.getD_eq_getElem?_getD, List.getElem?_drop, List.getElem?_drop, ← List.getD_eq_getElem?_getD, ← List.getD_eq_getElem?_getD]
  obtain ⟨zs, hzl, hrun⟩ := run_clearF w1 g ((k + m) * 4) (cap - (k + m)) (fun j hj => (R1.cell _ (by omega)).1) (fun j hj => (R1.cell _ (by omega)).2)
  have hw2 := heap_setCells_at zs ((k + m) * 4) w1 _ hw1 (by rw [hzl, hl1]; omega)
  have R2 : RawF V B g cap (splice (splice cs (k * 4) ((cellsF L us).drop ((k + 1) * 4))) ((k + m) * 4) zs) (us.take k ++ us.drop (k + 1)) (remL L k) (w1.setCells g ((k + m) * 4) zs) := by
    refine ⟨R1.ul, R1.hB, hw2, R1.hc, R1.hm, ?_, ?_, R1.hq⟩
    · rw [length_splice _ _ _ (by rw [hzl, hl1]; omega), hl1]
    · rw [take_splice_low _ _ _ _ (by rw [hrl]; exact Nat.le_refl _) (by rw [hl1]; omega)]
      exact R1.ht
  have hfin := R2.fr
  rw [hrl] at hfin
  have Hfin := Lib.hid hfin
  have Hb2 := Lib.hid (setCells_below hr.hB zs ((k + m) * 4) w w1 hb1)
  have hone : ∀ u ∈ (cellsF L us).drop ((k + 1) * 4), u.oneCell' = true := fun u hu => cellsF_one L us (fun x hx => by
    obtain ⟨i, hi, rfl⟩ := List.mem_iff_getElem.1 hx
    have := (hr.hq i (by rw [← hr.ul]; exact hi)).one
    rwa [List.getD_eq_getElem?_getD, List.getElem?_eq_getElem hi] at this) u (List.mem_of_mem_drop hu)
  have hcell : ∀ ad : Addr, (0 < m → ad = ⟨g, (k + 1) * 4, none⟩) → ∀ j u, ((cellsF L us).drop ((k + 1) * 4))[j]? = some u → w.drew.cell? (ad.add j) = some u := by
    intro ad hor j u hj
    have hjl := (List.getElem?_eq_some_iff.1 hj).1
    rw [hnews] at hjl
    obtain rfl := hor (by omega)
    rw [addF]
    have := hr.at ((k + 1) * 4 + j) u (by rw [List.getElem?_drop] at hj; exact hj)
    exact this
  have hspare : ∀ j, j < ((cellsF L us).drop ((k + 1) * 4)).length → (w.drew.cell? ⟨g, 0 + k * 4 + j, none⟩).isSome = true ∧ w.drew.frozen? ⟨g, 0 + k * 4 + j, none⟩ = false := by
    intro j hj
    rw [hnews] at hj
    exact hr.cell _ (by omega)
  have HI := Lib.hid hi
  have HZ1 := Lib.hid hz1
  have HNews := Lib.hid hnews
  have HOne := Lib.hid hone
  have HCell := Lib.hid hcell
  have HSpare := Lib.hid hspare
  have HW1 := Lib.hid hw1e
  generalize (cellsF L us).drop ((k + 1) * 4) = news at *
  have c1 : (0 : Int) ≤ (k : Int) := by omega
  have c2 : (k : Int) ≤ (k : Int) + 1 := by omega
  have c3 : (k : Int) + 1 ≤ (k : Int) + 1 + (m : Int) := by omega
  have c4 : (k : Int) + 1 + (m : Int) ≤ (cap : Int) := by omega
  have c5 : (k : Int) ≤ (cap : Int) := by omega
  have c6 : (k : Int) + (m : Int) ≤ (k : Int) + 1 + (m : Int) := by omega
  have c7 : ¬ ((k : Int) = (k : Int) + 1) := by omega
  clear hw1e hw1 hw2 R1 R2 hb1 hfin hl1 ht1 hnews hone hcell hspare hr hfr hi hz0 hz1 hz2
  have p2 : ((k : Int) + 1).toNat = k + 1 := by omega
  have c8 : (0 : Int) ≤ (k : Int) + 1 := by omega
  have p3 : k + 1 + m - (k + 1) = m := by omega
  by_cases hck : cap = k + 1
  · have hm0 : m = 0 := by omega
    subst hm0
    subst hck
    have hrun : ∀ ty, (Builtin.clear_ #[22] ty #[.slice (some ⟨g, k * 4, none⟩) 1 1]).run Tryz.prog w1 = .ok (.tuple #[]) (w1.setCells g (k * 4) zs) := by
      have := hrun
      rw [Nat.add_zero, show k + 1 - k = 1 by omega] at this
      exact this
    go_enter Tryz.func48, Tryz.ntmps48
    go_upto_region 5 with fail
    go_region_law (refine step_append_room rfl (.tmp 22) (.tmp 25) 22 rfl 35 i0 4 Tryz.underlying22 HI.out HZ1.out g 0 k (k + 1) (by simp [Act.eval, Act.put]) ⟨g, 0, none⟩ 0 0 news (by simp [Act.eval, Act.put]) HNews.out (HCell.out _ (by omega)) HOne.out (by omega) HSpare.out ?_)
    all_goals
      rw [HW1.out]
      go_wp2
      go_ret
      exact ⟨_, rfl, Hfin.out, Hb2.out⟩
  · have hrun : ∀ ty, (Builtin.clear_ #[22] ty #[.slice (some ⟨g, (k + m) * 4, none⟩) (k + 1 + m - (k + m)) (cap - (k + m))]).run Tryz.prog w1 = .ok (.tuple #[]) (w1.setCells g ((k + m) * 4) zs) := by
      rw [show k + 1 + m - (k + m) = 1 by omega]
      exact hrun
    go_enter Tryz.func48, Tryz.ntmps48
    go_upto_region 5 with fail
    go_region_law (refine step_append_room rfl (.tmp 22) (.tmp 25) 22 rfl 35 i0 4 Tryz.underlying22 HI.out HZ1.out g 0 k cap (by simp [Act.eval, Act.put]) ⟨g, (k + 1) * 4, none⟩ m (cap - (k + 1)) news (by simp [Act.eval, Act.put]) HNews.out (HCell.out _ (fun _ => rfl)) HOne.out (by omega) HSpare.out ?_)
    all_goals
      rw [HW1.out]
      go_wp2
      go_ret
      exact ⟨_, rfl, Hfin.out, Hb2.out⟩
end

section
open Go.RowKit Go.PlainAid
set_option maxHeartbeats 8000000 in
set_option maxRecDepth 100000 in
theorem pRemove_any (r : Rec) (u : Value) (w : World) (hu : FL u r.fields w) (i : Int) (hs : r.fields.length ≤ 10000) (q : Rec) (er : Int) (h : remR r i = (q, er)) :
    Calls Tryz.prog 23 #[RV r u, .int .i64 i] w fun e w' => ∃ v, e = .returned (.tuple #[RV q v, .int .i64 er]) ∧ FL v q.fields w' ∧ Below w.heap.size w w' := by
  have HU := Lib.hid hu
  obtain ⟨a, cap, rfl, hcap, hmax⟩ := hu.length
  unfold maxLen at hmax
  obtain ⟨n, hn⟩ : ∃ n, r.fields.length = n := ⟨_, rfl⟩
  unfold remR at h
  rw [hn] at hcap hs HU h ⊢
  have HN := Lib.hid hn
  obtain ⟨Q, hQ⟩ : ∃ Q, (fun (e : Ending) (w' : World) => ∃ v, e = .returned (.tuple #[RV q v, .int .i64 er]) ∧ FL v q.fields w' ∧ Below w.heap.size w w') = Q := ⟨_, rfl⟩
  rw [hQ]
  have HQ : RowKit.Hid (∀ e w', (∃ v, e = .returned (.tuple #[RV q v, .int .i64 er]) ∧ FL v q.fields w' ∧ Below w.heap.size w w') → Q e w') := by rw [← hQ]; exact fun _ _ h => h
  unfold RV
  obtain ⟨W0, hW0⟩ : ∃ W0, (w.alloc (.cells #[.int .i64 r.id, .int .i64 r.ver, .int .i64 r.kind, .string (S r.lang), .slice a n cap] 24)).alloc (.cells #[.int .i64 0, .int .i64 0, .int .i64 0, .string ⟨#[]⟩, .slice none 0 0] 24) = W0 := ⟨_, rfl⟩
  have b0 : Below w.heap.size w W0 := by rw [← hW0]; exact ((Below.refl w.heap.size w).alloc (Nat.le_refl _) _).alloc (by simp) _
  have hF : W0.heap[w.heap.size]? = some (.cells #[.int .i64 r.id, .int .i64 r.ver, .int .i64 r.kind, .string (S r.lang), .slice a n cap] 24 (0, 0)) := by
    rw [← hW0]
    exact (Below.heap_alloc _ _ _ (by simp)).trans (heap_alloc_new w _)
  have hR : W0.heap[w.heap.size + 1]? = some (.cells #[.int .i64 0, .int .i64 0, .int .i64 0, .string ⟨#[]⟩, .slice none 0 0] 24 (0, 0)) := by
    rw [← hW0]
    have := heap_alloc_new (w.alloc (.cells #[.int .i64 r.id, .int .i64 r.ver, .int .i64 r.kind, .string (S r.lang), .slice a n cap] 24)) (.cells #[.int .i64 0, .int .i64 0, .int .i64 0, .string ⟨#[]⟩, .slice none 0 0] 24)
    simpa using this
  have hsz0 : W0.heap.size = w.heap.size + 2 := by rw [← hW0]; simp
  have HW0 := Lib.hid hW0
  have HU0 := Lib.hid (HU.out.after b0)
  have cC := Lib.hid (fclone_any w r.fields _ W0 b0 HU.out (by rw [hn]; omega))
  have cD := Lib.hid (fun v W k hk h => fdelete_any w W0.heap.size r.fields v W h k hk (by rw [hn]; omega))
  rw [hn] at cD
  clear hW0 hn hu HU hQ
  obtain ⟨lg, hlg⟩ : ∃ lg, S r.lang = lg := ⟨_, rfl⟩
  rw [hlg] at HW0 hF ⊢
  have HLG := Lib.hid hlg
  clear hlg
  by_cases hbad : i < 0 ∨ (n : Int) ≤ i
  · rw [if_pos hbad] at h
    obtain ⟨rfl, rfl⟩ := Prod.mk.inj h
    obtain ⟨⟨p0, p1, p2, p3, p4⟩, _⟩ := rec_cells hF
    obtain ⟨⟨r0, r1, r2, r3, r4⟩, g0, g1, g2, g3, g4⟩ := rec_cells hR
    have hfin := Lib.hid (rec_set (x0 := .int .i64 0) (x1 := .int .i64 0) (x2 := .int .i64 0) (x3 := .string ⟨#[]⟩) (x4 := .slice none 0 0) hR)
    have Fin := Lib.hid (rec_below (b := w.heap.size + 1) b0 (Nat.le_succ _) (.int .i64 0) (.int .i64 0) (.int .i64 0) (.string ⟨#[]⟩) (.slice none 0 0))
    clear hF hR hsz0 h b0
    by_cases h0 : i < 0
    · have d0 : decide (i < 0) = true := decide_eq_true h0
      clear hbad h0
      go_enter Tryz.func23, Tryz.ntmps23
      go_upto_region 1 with fail
      rw [HW0.out]
      go_wp2
      (try simp only [Exit.inBlock, Exit.then])
      refine bodyPost_ret (results_rec_tmp rfl _ _ (w.heap.size + 1) _ _ _ _ rfl hfin.out Tryz.underlying24 rfl (by kernel_rfl)) rfl ?_
      exact HQ.out _ _ ⟨.slice none 0 0, rfl, FL.zero _, Fin.out⟩
    · have d0 : decide (i < 0) = false := decide_eq_false h0
      have d1 : decide ((n : Int) ≤ i) = true := decide_eq_true (by omega)
      clear hbad h0
      go_enter Tryz.func23, Tryz.ntmps23
      go_upto_region 1 with fail
      rw [HW0.out]
      go_wp2
      (try simp only [Exit.inBlock, Exit.then])
      refine bodyPost_ret (results_rec_tmp rfl _ _ (w.heap.size + 1) _ _ _ _ rfl hfin.out Tryz.underlying24 rfl (by kernel_rfl)) rfl ?_
      exact HQ.out _ _ ⟨.slice none 0 0, rfl, FL.zero _, Fin.out⟩
  rw [if_neg hbad] at h
  obtain ⟨k, rfl⟩ : ∃ k : Nat, i = (k : Int) := ⟨i.toNat, by omega⟩
  have hkn : k < n := by omega
  rw [Int.toNat_natCast] at h
  obtain ⟨rfl, rfl⟩ := Prod.mk.inj h
  have d0 : decide ((k : Int) < 0) = false := decide_eq_false (by omega)
  have d1 : decide ((n : Int) ≤ (k : Int)) = false := decide_eq_false (by omega)
  clear h hbad
  have HF := Lib.hid hF
  have HR := Lib.hid hR
  have HS0 := Lib.hid hsz0
  have HB0 := Lib.hid b0
  obtain ⟨⟨p0, p1, p2, p3, p4⟩, _⟩ := rec_cells hF
  have hlt0 : w.heap.size < W0.heap.size := by omega
  have hlt1 : w.heap.size + 1 < W0.heap.size := by omega
  clear hF hR hsz0 b0
  go_enter Tryz.func23, Tryz.ntmps23
  go_upto_region 1 with fail
  rw [HW0.out]
  go_wp2_with fail
  refine (cC.out).mono ?_
  rintro e w1 ⟨v1, rfl, hfr1, hb1⟩
  have HB1 := Lib.hid hb1
  have cD1 := Lib.hid (cD.out v1 w1 k hkn hfr1)
  obtain ⟨a1, c1, rfl, _, _⟩ := (hfr1.fl (HB0.out.trans (hb1.mono HB0.out.size))).length
  generalize r.fields.length = nn at *
  clear hfr1 hb1
  go_wp2_with fail
  refine (cD1.out).mono ?_
  rintro e w2 ⟨v2, rfl, hfr2, hb2⟩
  have hb2' := HB1.out.trans hb2
  have HB2 := Lib.hid hb2'
  have hF2 := (hb2'.block _ hlt0).trans HF.out
  have hR2 := (hb2'.block _ hlt1).trans HR.out
  obtain ⟨a2, c2, rfl, _, _⟩ := (hfr2.fl (HB0.out.trans (hb2'.mono HB0.out.size))).length
  obtain ⟨l2, hl2⟩ : ∃ l2, (remL r.fields k).length = l2 := ⟨_, rfl⟩
  rw [hl2] at hfr2 ⊢
  obtain ⟨⟨s0, s1, s2, s3, s4⟩, f0, f1, f2, f3, f4⟩ := rec_cells hF2
  obtain ⟨w3, hw3⟩ : ∃ w3, w2.setCell ⟨w.heap.size, 4, none⟩ (.slice a2 l2 c2) = w3 := ⟨_, rfl⟩
  have hF3 : w3.heap[w.heap.size]? = some (.cells #[.int .i64 r.id, .int .i64 r.ver, .int .i64 r.kind, .string lg, .slice a2 l2 c2] 24 (0, 0)) := by
    rw [← hw3]
    simp [World.setCell, Array.getElem?_modify, hF2]
  have hR3 : w3.heap[w.heap.size + 1]? = some (.cells #[.int .i64 0, .int .i64 0, .int .i64 0, .string ⟨#[]⟩, .slice none 0 0] 24 (0, 0)) := by
    rw [← hw3]
    simpa [World.setCell, Array.getElem?_modify] using hR2
  have hb3 : Below w.heap.size w w3 := by
    rw [← hw3]
    exact (HB0.out.trans (hb2'.mono HB0.out.size)).setCell (p := ⟨w.heap.size, 4, none⟩) (Nat.le_refl _) _
  have hfr3 : FR w W0.heap.size (.slice a2 l2 c2) (remL r.fields k) w3 := by
    rw [← hw3]
    exact hfr2.put (p := ⟨w.heap.size, 4, none⟩) hlt0 _
  have HW3 := Lib.hid hw3
  obtain ⟨⟨t0, t1, t2, t3, t4⟩, _⟩ := rec_cells hF3
  obtain ⟨⟨r0, r1, r2, r3, r4⟩, g0, g1, g2, g3, g4⟩ := rec_cells hR3
  have hfin := Lib.hid (rec_set (x0 := .int .i64 r.id) (x1 := .int .i64 r.ver) (x2 := .int .i64 r.kind) (x3 := .string lg) (x4 := .slice a2 l2 c2) hR3)
  have Fin := Lib.hid (rec_below (b := w.heap.size + 1) hb3 (Nat.le_succ _) (.int .i64 r.id) (.int .i64 r.ver) (.int .i64 r.kind) (.string lg) (.slice a2 l2 c2))
  have hql := Lib.hid (rec_row hfr3 hlt1 (.int .i64 r.id) (.int .i64 r.ver) (.int .i64 r.kind) (.string lg) (.slice a2 l2 c2))
  clear hF2 hR2 hF3 hR3 hfr2 hfr3 hb2 hb2' hb3 hw3 hl2 p0 p1 p2 p3 p4
  go_upto_region 4 with fail
  rw [HW3.out]
  go_wp2
  (try simp only [Exit.inBlock, Exit.then])
  refine bodyPost_ret (results_rec_tmp rfl _ _ (w.heap.size + 1) _ _ _ _ rfl hfin.out Tryz.underlying24 rfl (by kernel_rfl)) rfl ?_
  refine HQ.out _ _ ⟨.slice a2 l2 c2, ?_, ?_, Fin.out⟩
  · unfold RV
    rw [HLG.out]
    rfl
  · exact hql.out.fl Fin.out
end

end Go.Proofs.YtcnjjdbpcobolaaGreatDoor

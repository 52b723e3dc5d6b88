/- Package rules: missing. -/
import Derived.Test.YtjfdolmcecgdgaaDoorUI09
namespace Go.Proofs.YtjfdolmcecgdgaaDoor
open Go.RowKit Go.PlainAid

def mustG (g : List UInt8 → Bool) (t : Rul) : List Prb := if (t.must && !(g t.tag)) = true then [⟨1, -1, t.tag, 0⟩] else []
def mustGL (g : List UInt8 → Bool) (l : List Rul) : List Prb := l.flatMap (mustG g)
theorem mustGL_eq (fs : List Fld) (l : List Rul) : mustGL (tagIn fs) l = mustL l fs := rfl
theorem mustGL_succ (g : List UInt8 → Bool) (l : List Rul) (k : Nat) (h : k < l.length) : mustGL g (l.take (k + 1)) = mustGL g (l.take k) ++ mustG g (l.getD k rul0) := by
  unfold mustGL
  rw [List.take_succ_eq_append_getElem h, List.flatMap_append, List.getD_eq_getElem?_getD, List.getElem?_eq_getElem h]
  simp
theorem mustGL_le (g : List UInt8 → Bool) : ∀ l : List Rul, (mustGL g l).length ≤ l.length
  | [] => Nat.le_refl 0
  | t :: s => by
    have := mustGL_le g s
    unfold mustGL at this ⊢
    rw [List.flatMap_cons, List.length_append, List.length_cons]
    have h1 : (mustG g t).length ≤ 1 := by
      unfold mustG
      split
      · exact Nat.le_refl 1
      · exact Nat.zero_le _
    omega
set_option maxHeartbeats 16000000 in
set_option maxRecDepth 100000 in
theorem uMissing_any (l : List Rul) (v : Value) (w : World) (hv : TL v l w) (b n0 : Nat) (g : List UInt8 → Bool) (hm : BM 9 mkT b n0 g w) (hl : l.length ≤ 1000) (ht : ∀ i, i < l.length → (l.getD i rul0).tag.length ≤ maxLen) :
    Calls Tryd.prog 35 #[v, .map (some b)] w fun e w' => ∃ v', e = .returned v' ∧ PR w.heap.size v' (mustGL g l) w' ∧ Below w.heap.size w w' := by
  have HU := Lib.hid hv
  obtain ⟨a, cap, rfl, hcap, hmax⟩ := hv.length
  unfold maxLen at hmax
  have HM := Lib.hid hm
  have HStep := Lib.hid (mustGL_succ g l)
  have HLe := Lib.hid (fun k => mustGL_le g (l.take k))
  have HK := Lib.hid (fun k (hk : k < l.length) => key_text (l.getD k rul0).tag (ht k hk))
  have HTake : RowKit.Hid (l.take l.length = l) := List.take_length
  have HLen := Lib.hid (fun k => List.length_take_le k l)
  obtain ⟨n, hn⟩ : ∃ n, l.length = n := ⟨_, rfl⟩
  have HN := Lib.hid hn
  rw [hn] at hcap HU HStep HK HTake hl ⊢
  have HRef := Lib.hid (Below.refl w.heap.size w)
  clear hv hm hn ht
  go_enter Tryd.func35, Tryd.ntmps35
  go_wp2
  go_loopw [5, 10] (fun s i wr => ∃ k : Nat, k ≤ n ∧ i = .int .i64 (k : Int) ∧ PR w.heap.size s (mustGL g (l.take k)) wr ∧ Below w.heap.size w wr) (fun _ i _ => n - (intOf i).toNat)
  case atStart => exact ⟨0, Nat.zero_le _, rfl, PR.nil _ _, HRef.out⟩
  case round =>
    obtain ⟨k, hk, rfl, hpr, hbw⟩ := hrel
    by_cases hkn : k < n
    · obtain ⟨g', o, cap', he, hg, hR⟩ := (HU.out.after hbw).at k (by rw [HN.out]; exact hkn)
      obtain ⟨ha, -, hcp⟩ := Value.slice.inj he
      subst ha hcp
      clear he
      obtain ⟨c0, c1, c2, c3, c4, c5, c6⟩ := hR
      have i1 : (0 : Int) ≤ (k : Int) := by omega
      have i2 : (k : Int) < (n : Int) := by omega
      have hst := HStep.out k hkn
      have hle : (mustGL g (l.take k)).length ≤ n := Nat.le_trans (HLe.out k) (by have := HLen.out k; rw [List.length_take]; have := HN.out; omega)
      have hk2 := HK.out k hkn
      obtain ⟨t, htk⟩ : ∃ t, l.getD k rul0 = t := ⟨_, rfl⟩
      rw [htk] at c0 c1 c2 c3 c4 c5 c6 hst hk2
      clear htk
      have hA := (Below.refl wr.heap.size wr).alloc (Nat.le_refl _) (.cells #[.string (S t.tag), .bool t.rep, .bool t.must, .string (S t.codes), .string (S t.once), .string (S t.needs), .int .i64 t.auth] 25)
      have hX := UB.new t wr
      obtain ⟨wa, hwa⟩ : ∃ wa, wr.alloc (.cells #[.string (S t.tag), .bool t.rep, .bool t.must, .string (S t.codes), .string (S t.once), .string (S t.needs), .int .i64 t.auth] 25) = wa := ⟨_, rfl⟩
      rw [hwa] at hA hX
      obtain ⟨y0, y1, y2, y3, y4, y5, y6⟩ := hX.cells
      have hlook := ((HM.out.after hbw).after hA).look keyed_text Tryd.underlying60 hk2
      have HWA := Lib.hid hwa
      have HBa := Lib.hid (hbw.trans (hA.mono hbw.size))
      have hpra := hpr.after hA
      obtain ⟨gb, hgb⟩ : ∃ gb, g t.tag = gb := ⟨_, rfl⟩
      rw [hgb] at hlook
      have hmg : mustG g t = if (t.must && !gb) = true then [⟨1, -1, t.tag, 0⟩] else [] := by unfold mustG; rw [hgb]
      rw [hmg] at hst
      have HSt := Lib.hid hst
      have HPa := Lib.hid hpra
      clear hwa hA hX hbw hpr hst hmg hgb hk2 hpra
      obtain ⟨ao, cp, hs⟩ := own_form9 HPa.out
      subst hs
      obtain ⟨mn, hmn⟩ : ∃ mn, (mustGL g (l.take k)).length = mn := ⟨_, rfl⟩
      have HMn := Lib.hid hmn
      rw [hmn] at hle HPa ⊢
      clear hmn
      obtain ⟨vm, hvm⟩ : ∃ v, t.must = v := ⟨_, rfl⟩
      rw [hvm] at c2 y2 HWA HSt
      clear hvm
      go_upto_region 5 with fail
      rw [HWA.out]
      clear HWA c0 c1 c2 c3 c4 c5 c6
      cases vm
      · have HE := Lib.hid HSt.out
        go_wp2
        go_roundw
        case rel => exact ⟨k + 1, by omega, by go_num, by rw [HE.out]; simpa using HPa.out, HBa.out⟩
        case measure => simp [intOf]; omega
      · cases gb
        · have HE := Lib.hid (show mustGL g (l.take (k + 1)) = mustGL g (l.take k) ++ [⟨1, -1, t.tag, 0⟩] from HSt.out)
          have hOne := PL.one wa ⟨1, -1, t.tag, 0⟩
          have hRow := HPa.out.after ((Below.refl wa.heap.size wa).alloc (Nat.le_refl _) (.cells #[.int .i64 1, .int .i64 (-1), .string (S t.tag), .int .u8 ((0 : UInt8).toNat : Int)] 44))
          have hBx := HBa.out.alloc HBa.out.size (.cells #[.int .i64 1, .int .i64 (-1), .string (S t.tag), .int .u8 ((0 : UInt8).toNat : Int)] 44)
          rw [show (((0 : UInt8).toNat : Nat) : Int) = 0 from rfl] at hOne hRow hBx
          have HOne := Lib.hid hOne
          have HRow := Lib.hid hRow
          have HBx := Lib.hid hBx
          clear hOne hRow hBx
          go_wp2_with (at_builtin; refine append_pr _ rfl _ _ rfl w.heap.size _ (mustGL g (l.take k)) rfl HRow.out _ [⟨1, -1, t.tag, 0⟩] rfl HOne.out (by rw [HMn.out]; simp; omega) HBx.out.size w.heap.size w (Nat.le_refl _) HBx.out ?_; intro v3 w3 hown3 hb3 hs3 hs4)
          go_roundw
          case rel => exact ⟨k + 1, by omega, by go_num, by rw [HE.out]; exact hown3, hb3⟩
          case measure => simp [intOf]; omega
        · have HE := Lib.hid HSt.out
          go_wp2
          go_roundw
          case rel => exact ⟨k + 1, by omega, by go_num, by rw [HE.out]; simpa using HPa.out, HBa.out⟩
          case measure => simp [intOf]; omega
    · obtain rfl : k = n := by omega
      rw [HTake.out] at hpr
      have HP := Lib.hid hpr
      clear hpr
      go_wp2
      go_ret
      exact ⟨_, rfl, HP.out, hbw⟩
end Go.Proofs.YtjfdolmcecgdgaaDoor

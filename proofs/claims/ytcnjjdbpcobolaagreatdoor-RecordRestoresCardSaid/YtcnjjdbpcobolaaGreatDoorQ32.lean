/- Merged: Ls08, RDecT, RSize. -/
import Derived.Test.YtcnjjdbpcobolaaGreatDoorQ31
import Derived.Test.YtcnjjdbpcobolaaGreatDoorQ17
import Derived.Test.YtcnjjdbpcobolaaGreatDoorQ14
import Derived.Test.YtcnjjdbpcobolaaGreatDoorQ07
namespace Go.Proofs.YtcnjjdbpcobolaaGreatDoor

section
open Go.RowKit Go.PlainAid
theorem getD_le (L : List Sub) (n : Nat) (h : ∀ s ∈ L, s.2.length ≤ n) (i : Nat) : (L.getD i sub0).2.length ≤ n := by
  rw [List.getD_eq_getElem?_getD]
  rcases Nat.lt_or_ge i L.length with h1 | h1
  · rw [List.getElem?_eq_getElem h1]
    exact h _ (List.getElem_mem h1)
  · rw [List.getElem?_eq_none h1]
    exact Nat.zero_le _
theorem smallF_le (f : Fld) (h : smallFB f = true) : f.subs.length ≤ 20 ∧ ∀ i, (f.subs.getD i sub0).2.length ≤ 300 := by
  unfold smallFB at h
  rw [Bool.and_eq_true, decide_eq_true_iff, List.all_eq_true] at h
  exact ⟨h.1, getD_le _ _ (fun s hs => of_decide_eq_true (h.2 s hs))⟩
theorem smallR_le (r : Rec) (h : smallRB r = true) : r.fields.length ≤ 70 ∧ ∀ f ∈ r.fields, f.subs.length ≤ 20 ∧ ∀ i, (f.subs.getD i sub0).2.length ≤ 300 := by
  unfold smallRB at h
  rw [Bool.and_eq_true, decide_eq_true_iff, List.all_eq_true] at h
  exact ⟨h.1, fun f hf => smallF_le f (h.2 f hf)⟩
theorem mem_at (L : List Fld) (i : Nat) (h : i < L.length) : L.getD i fd0 ∈ L := by
  rw [List.getD_eq_getElem?_getD, List.getElem?_eq_getElem h]
  exact List.getElem_mem h
theorem small_hz (r : Rec) (h : smallRB r = true) : ∀ i, i < r.fields.length → ∀ j, j < (r.fields.getD i fd0).subs.length → ((r.fields.getD i fd0).subs.getD j sub0).2.length ≤ 1000000 :=
  fun i hi j _ => Nat.le_trans (((smallR_le r h).2 _ (mem_at _ i hi)).2 j) (by decide)

set_option maxHeartbeats 8000000 in
theorem lvalid_any (r : Rec) (u : Value) (w : World) (hu : FL u r.fields w) (b : Bool) (hb : (smallRB r && decide (rightRI r = 0)) = b) :
    Calls Tryz.prog 16 #[RV r u] w fun e w' => e = .returned (.bool b) ∧ Below w.heap.size w w' := by
  have b0 := (Below.refl w.heap.size w).alloc (Nat.le_refl _) (.cells #[.int .i64 r.id, .int .i64 r.ver, .int .i64 r.kind, .string (S r.lang), u] 24)
  have hX := RB.new hu
  have cS := Lib.hid (fun W (h : FL u r.fields W) q hq => refSmall_any r u W h q hq)
  obtain ⟨a, cap, rfl, _, _⟩ := hu.length
  cases hs : smallRB r
  · have c1 := Lib.hid (fun W h => cS.out W h false hs)
    rw [hs, Bool.false_and] at hb
    subst hb
    unfold RV at c1 ⊢
    clear hu cS hs
    have hq := hX.q
    generalize r.fields.length = n at *
    generalize S r.lang = lg at *
    go_enter Tryz.func16, Tryz.ntmps16
    go_wp2_with fail
    refine (c1.out _ hq).mono ?_
    rintro e w1 ⟨rfl, c⟩
    have b1 := b0.trans (c.mono b0.size)
    clear c b0
    go_wp2
    go_ret
    exact ⟨rfl, b1⟩
  · have c1 := Lib.hid (fun W h => cS.out W h true hs)
    obtain ⟨er, her⟩ : ∃ er, rightRI r = er := ⟨_, rfl⟩
    have c2 := Lib.hid (fun W (h : FL (.slice a r.fields.length cap) r.fields W) => refRight08_any r _ W h (small_hz r hs) er her)
    rw [hs, Bool.true_and, her] at hb
    subst hb
    unfold RV at c1 c2 ⊢
    obtain ⟨k0, k1, k2, k3, k4⟩ := hX.cells
    have hlt := hX.lt
    have hx0 := hX.q
    clear hu cS hs her
    generalize hun : (Value.slice a r.fields.length cap) = u at *
    have HX := Lib.hid hX
    obtain ⟨W0, hW0⟩ : ∃ W0, w.alloc (.cells #[.int .i64 r.id, .int .i64 r.ver, .int .i64 r.kind, .string (S r.lang), u] 24) = W0 := ⟨_, rfl⟩
    rw [hW0] at HX b0 hx0 k0 k1 k2 k3 k4
    have HW0 := Lib.hid hW0
    clear hW0 hlt hX
    subst hun
    generalize r.fields.length = n at *
    generalize hlg : S r.lang = lg at *
    go_enter Tryz.func16, Tryz.ntmps16
    go_upto_region 1 with fail
    rw [HW0.out]
    go_wp2_with fail
    refine (c1.out _ hx0).mono ?_
    rintro e w1 ⟨rfl, c⟩
    have b1 := b0.trans (c.mono b0.size)
    have hX1 := HX.out.after c
    clear c b0 k0 k1 k2 k3 k4
    obtain ⟨k0, k1, k2, k3, k4⟩ := hX1.cells
    rw [hlg] at k3
    by_cases h0 : er = 0
    · have d0 : decide (er = 0) = true := decide_eq_true h0
      have d1 : (er == 0) = true := by simpa using h0
      go_wp2_with fail
      refine (c2.out _ hX1.q).mono ?_
      rintro e w2 ⟨rfl, c⟩
      have b2 := b1.trans (c.mono b1.size)
      clear c
      go_wp2
      go_ret
      exact ⟨by rw [d0]; rfl, b2⟩
    · have d0 : decide (er = 0) = false := decide_eq_false h0
      have d1 : (er == 0) = false := by simpa using h0
      go_wp2_with fail
      refine (c2.out _ hX1.q).mono ?_
      rintro e w2 ⟨rfl, c⟩
      have b2 := b1.trans (c.mono b1.size)
      clear c
      go_wp2
      go_ret
      exact ⟨by rw [d0]; rfl, b2⟩

theorem bl_ext (A B : List (List UInt8)) (hl : A.length = B.length) (h : ∀ i, i < A.length → A.getD i [] = B.getD i []) : A = B := by
  refine List.ext_getElem hl fun i h1 h2 => ?_
  have := h i h1
  rwa [List.getD_eq_getElem?_getD, List.getD_eq_getElem?_getD, List.getElem?_eq_getElem h1, List.getElem?_eq_getElem h2] at this
set_option maxHeartbeats 8000000 in
set_option maxRecDepth 100000 in
theorem lsame_any (A B : List (List UInt8)) (u v : Value) (w : World) (hu : BL u A w) (hv : BL v B w) (bb : Bool) (hb : decide (A = B) = bb) :
    Calls Tryz.prog 33 #[u, v] w fun e w' => e = .returned (.bool bb) ∧ Below w.heap.size w w' := by
  have HU := Lib.hid hu
  have HV := Lib.hid hv
  obtain ⟨a, cap, rfl, hc, hm, _, _⟩ := hu
  obtain ⟨a', cap', rfl, hc', hm', _, _⟩ := hv
  unfold maxLen at hm hm'
  by_cases hlen : A.length = B.length
  · obtain ⟨n, hn⟩ : ∃ n, A.length = n := ⟨_, rfl⟩
    have hnB : B.length = n := by omega
    have HX := Lib.hid (bl_ext A B hlen)
    have HEq : RowKit.Hid (bb = true ↔ A = B) := by unfold RowKit.Hid; rw [← hb]; exact decide_eq_true_iff
    rw [hn] at HU HX hc ⊢
    rw [hnB] at HV hc' ⊢
    have HN := Lib.hid hn
    have HNB := Lib.hid hnB
    have d0 : ((n : Int) == (n : Int)) = true := by simp
    clear hb hlen hn hnB
    go_enter Tryz.func33, Tryz.ntmps33
    go_wp2
    go_loopw [13] (fun i wr => ∃ k : Nat, k ≤ n ∧ i = .int .i64 (k : Int) ∧ RowKit.Hid (∀ j, j < k → A.getD j [] = B.getD j []) ∧ Below w.heap.size w wr) (fun i _ => n - (intOf i).toNat)
    case atStart => exact ⟨0, Nat.zero_le _, rfl, (fun j hj => by omega), Below.refl _ _⟩
    case round =>
      obtain ⟨k, hk, rfl, hj, hbw⟩ := hrel
      have HBw := Lib.hid hbw
      by_cases hkn : k < n
      · obtain ⟨_, _, he, _, _, _, hcc⟩ := HU.out.after hbw
        obtain ⟨g, o, hea, hg, y0⟩ := hcc k (by rw [HN.out]; exact hkn)
        obtain ⟨h1, -, -⟩ := Value.slice.inj he
        rw [← h1] at hea
        obtain ⟨_, _, he2, _, _, _, hcc2⟩ := HV.out.after hbw
        obtain ⟨g', o', hea', hg', y1⟩ := hcc2 k (by rw [HNB.out]; exact hkn)
        obtain ⟨h1', -, -⟩ := Value.slice.inj he2
        rw [← h1'] at hea'
        subst hea hea'
        clear he he2 hcc hcc2 h1 h1' hbw
        have i3 : (0 : Int) ≤ (k : Int) := by omega
        have i4 : (k : Int) < (n : Int) := by omega
        replace y0 : wr.cell? ⟨g, o + k, none⟩ = some (.string (S (A.getD k []))) := y0
        replace y1 : wr.cell? ⟨g', o' + k, none⟩ = some (.string (S (B.getD k []))) := y1
        have hte := S_eq (A.getD k []) (B.getD k [])
        by_cases hab : A.getD k [] = B.getD k []
        · rw [decide_eq_true hab] at hte
          have HNx : RowKit.Hid (∀ j, j < k + 1 → A.getD j [] = B.getD j []) := by
            intro j hj2
            rcases Nat.lt_or_ge j k with h | h
            · exact hj.out j h
            · rw [show j = k by omega]; exact hab
          clear hab hj
          generalize S (A.getD k []) = ta at *
          generalize S (B.getD k []) = tb at *
          go_upto_region 6 with fail
          go_quiet (fail)
          all_goals
            go_wp2_with fail
            go_roundw
            case rel => exact ⟨k + 1, by omega, by go_num, HNx, below_drewN _ _ _ HBw.out⟩
            case measure => simp [intOf]; omega
        · rw [decide_eq_false hab] at hte
          obtain rfl : bb = false := by
            cases bb
            · rfl
            · exact absurd (by rw [HEq.out.1 rfl]) hab
          clear hab hj
          generalize S (A.getD k []) = ta at *
          generalize S (B.getD k []) = tb at *
          go_upto_region 6 with fail
          go_quiet (fail)
          all_goals
            go_wp2_with fail
            go_ret
            exact ⟨rfl, below_drewN _ _ _ HBw.out⟩
      · obtain rfl : k = n := by omega
        obtain rfl : bb = true := HEq.out.2 (HX.out hj.out)
        go_wp2
        go_ret
        exact ⟨rfl, HBw.out⟩
  · obtain rfl : bb = false := by rw [← hb]; exact decide_eq_false (fun h => hlen (by rw [h]))
    generalize A.length = n at *
    generalize B.length = m at *
    have d0 : ((n : Int) == (m : Int)) = false := by simpa using (show ¬ ((n : Int) = (m : Int)) by omega)
    have d1 : decide ((n : Int) = (m : Int)) = false := decide_eq_false (by omega)
    go_enter Tryz.func33, Tryz.ntmps33
    go_wp2
    go_ret
    exact ⟨rfl, Below.refl _ _⟩
end

section
open Go.RowKit
theorem wid_bad : wid 65533 = 3 := by decide

theorem good_T (c : Nat) (h : okc c) : goodP (c, wid c) := by
  refine ⟨?_, ?_⟩
  · rintro ⟨h1, h2⟩
    simp only at h1 h2
    subst h1
    rw [wid_bad] at h2
    omega
  · unfold okc at h
    simp only
    omega

theorem refDec_T (cs : List Nat) (h : OKs cs) (k : Nat) (hk : k < cs.length) : refDec (T cs) (off cs k) = (cs[k], wid cs[k]) := by
  unfold refDec
  rw [decode_T cs h k hk, if_pos (good_T _ (OKs_get h hk))]

theorem decode_refT (cs : List Nat) (h : OKs cs) (hz : (T cs).size ≤ 1000000) (k : Nat) (hk : k < cs.length) (w : World) :
    Calls Tryz.prog 83 #[.string (T cs), .int .i64 (off cs k)] w fun e w' => e = .returned (.tuple #[.int .i64 (cs[k] : Nat), .int .i64 (wid cs[k])]) ∧ Below w.heap.size w w' := by
  have := decode_ref (T cs) (off cs k) (off_lt cs k hk) hz w
  rw [refDec_T cs h k hk] at this
  exact this
end

section
open Go.RowKit
/-- The width of what decode reads, at least 1. -/
theorem size_ref (s : ByteArray) (i : Nat) (hi : i < s.size) (hz : s.size ≤ 1000000) (w : World) :
    Calls Tryz.prog 84 #[.string s, .int .i64 i] w fun e w' => e = .returned (.int .i64 (max (refDec s i).2 1 : Nat)) ∧ Below w.heap.size w w' := by
  have cD := decode_ref s i hi hz w
  generalize hd : refDec s i = d at cD
  obtain ⟨c, k⟩ := d
  simp only at cD
  clear hd
  by_cases hk : k = 0
  · subst hk
    go_enter Tryz.func84, Tryz.ntmps84
    go_wp2_with fail
    refine cD.mono ?_
    rintro e w1 ⟨rfl, b1⟩
    go_wp2
    go_ret
    exact ⟨rfl, b1⟩
  · have h1 : (1 : Int) ≤ (k : Int) := by omega
    have h2 : max k 1 = k := by omega
    rw [h2]
    clear h2 hk
    have HM : RowKit.Hid (max (k : Int) 1 = (k : Int)) := by unfold RowKit.Hid; omega
    go_enter Tryz.func84, Tryz.ntmps84
    go_wp2_with fail
    refine cD.mono ?_
    rintro e w1 ⟨rfl, b1⟩
    go_wp2
    go_ret
    refine ⟨?_, b1⟩
    first
      | rfl
      | (show Ending.returned (.int .i64 (max (k : Int) 1)) = _; rw [HM.out])
end

end Go.Proofs.YtcnjjdbpcobolaaGreatDoor

/- Merged: R11J, R11K, R11L. -/
import Derived.Test.YtnfallkeicehiaaDoorQ18
namespace Go.Proofs.YtnfallkeicehiaaDoor

section
open Go.RowKit Go.PlainAid
theorem text_lines (r : Rec) : r.fields.length + 2 ≤ (textX r).length := by
  have h : ∀ F : List Fld, F.length ≤ (bodyF F).length := by
    intro F
    induction F with
    | nil => exact Nat.zero_le _
    | cons f F ih =>
      have e : (bodyF (f :: F)).length = (lineL f).length + 1 + (bodyF F).length := by simp [bodyF]; omega
      rw [e, List.length_cons]
      omega
  have := h r.fields
  unfold textX
  simp only [List.length_append, List.length_cons, List.length_nil]
  omega
/-- A row of records of the call's own; their fields lie in blocks behind block b. -/
def RB2 (B b : Nat) (v : Value) (L : List Rec) (w : World) : Prop :=
  ∃ us : List Value, us.length = L.length ∧ w.ownsRow B 24 5 v L.length (cellsR L us) ∧ v.ownBlock ≠ some b ∧ ∀ i, i < L.length → NewX (b + 1) v.ownBlock (FL (us.getD i .nilIface) (L.getD i rec0).fields) w
theorem RB2.empty (w : World) (B b : Nat) (h : B ≤ w.heap.size) (hb : b ≠ w.heap.size) : RB2 B b (.slice (some ⟨w.heap.size, 0, none⟩) 0 0) [] (w.alloc (.cells #[] 24)) :=
  ⟨[], rfl, World.ownsRow_made w #[] 0 h (Nat.zero_le _) rfl, fun e => hb (Option.some.inj e).symm, fun i hi => by cases hi⟩
theorem RB2.after {B b : Nat} {v : Value} {L : List Rec} {w w' : World} (h : RB2 B b v L w) (hb : Below w.heap.size w w') : RB2 B b v L w' := by
  obtain ⟨us, h1, h2, h3, h4⟩ := h
  exact ⟨us, h1, own_after h2 hb, h3, fun i hi => (h4 i hi).on hb.size (fun j _ hj _ => hb.block j hj)⟩
theorem own_setn {w : World} {B e size n : Nat} {v : Value} {xs : List Value} (h : w.ownsRow B e size v n xs) (p : Addr) (u : Value) (hp : v.ownBlock ≠ some p.block) : (w.setCell p u).ownsRow B e size v n xs := by
  refine ⟨h.1, ?_⟩
  rcases h.2 with hn | ⟨g, cap, cur, rfl, hB', hg, rest⟩
  · exact .inl hn
  · exact .inr ⟨g, cap, cur, rfl, hB', (heap_setn w p u g (fun e => hp (by rw [← e]; rfl))).trans hg, rest⟩
theorem RB2.put {B b : Nat} {v : Value} {L : List Rec} {w : World} (h : RB2 B b v L w) (x y : Value) : RB2 B b v L (setP2 w b x y) := by
  obtain ⟨us, h1, h2, h3, h4⟩ := h
  exact ⟨us, h1, own_setn (own_setn h2 ⟨b, 0, none⟩ x h3) ⟨b, 1, none⟩ y h3, h3, fun i hi => (h4 i hi).on (by rw [pl_size]; exact Nat.le_refl _) (fun j hj _ _ => pl_other j (by omega))⟩
theorem RB2.rl {B b : Nat} {v : Value} {L : List Rec} {w : World} (h : RB2 B b v L w) : RL v L w := by
  obtain ⟨us, hl, hown, _, hq⟩ := h
  exact row_rl hl hown fun i hi => (hq i hi) w (Nat.le_refl _) (fun _ _ _ _ => rfl)
theorem RB2.new {B b : Nat} {v : Value} {L : List Rec} {w : World} (h : RB2 B b v L w) (hb : B ≤ b) : New B (RL v L) w := fun w' hs hbl => by
  obtain ⟨us, h1, h2, h3, h4⟩ := h
  exact RB2.rl (B := B) (b := b) ⟨us, h1, own_same h2 hbl, h3, fun i hi => (h4 i hi).on hs (fun j hj hk _ => hbl j (by omega) hk)⟩
theorem RB2.open {B b : Nat} {v : Value} {L : List Rec} {w : World} (h : RB2 B b v L w) (hlt : b < w.heap.size) :
    ∃ xs : List Value, w.ownsRow B 24 5 v L.length xs ∧ ∀ (f : Rec) (u v' : Value) (w' : World), NewX (b + 1) v.ownBlock (FL u f.fields) w → w.grownBy w' v.ownBlock → (v'.ownBlock = v.ownBlock ∨ v'.ownBlock = some w.heap.size) →
      w'.ownsRow B 24 5 v' (L.length + 1) (xs ++ encR f u) → RB2 B b v' (L ++ [f]) w' := by
  obtain ⟨us, hl, hown, hob, hq⟩ := h
  refine ⟨_, hown, fun f u v' w' hu hg hb hown' => ⟨us ++ [u], by rw [List.length_append, List.length_append, hl]; rfl, ?_, ?_, fun i hi => ?_⟩⟩
  · rw [cellsR_snoc L us f u hl, List.length_append]
    exact hown'
  · rcases hb with hb | hb
    · rw [hb]; exact hob
    · rw [hb]
      intro e
      have := Option.some.inj e
      omega
  · have hmv : ∀ {P : World → Prop}, NewX (b + 1) v.ownBlock P w → NewX (b + 1) v'.ownBlock P w' := fun hp => hp.move hg.size (fun j _ hk hne => hg.block j hk hne) (hb.imp id fun h => ⟨_, h, Nat.le_refl _⟩)
    rw [getD_app, getD_appR, hl]
    by_cases h1 : i < L.length
    · rw [if_pos h1, if_pos h1]; exact hmv (hq i h1)
    · have : i = L.length := by rw [List.length_append] at hi; simp at hi; omega
      subst this
      rw [if_neg h1, if_neg h1, Nat.sub_self]
      exact hmv hu
end

section
open Go.RowKit Go.PlainAid
/-- The offset that a place holds. -/
def plN (b : Nat) (w : World) : Nat := match w.heap[b]? with
  | some (.cells cs _ _) => (intOf (cs.getD 0 undef)).toNat
  | _ => 0
end

section
open Go.RowKit Go.PlainAid
set_option maxHeartbeats 8000000 in
set_option maxRecDepth 100000 in
theorem refSameRecords_eq (L : List Rec) (u v : Value) (w : World) (hu : RL u L w) (hv : RL v L w) (hr : ∀ r : Rec, sameRB r r = true) :
    Calls Tryd.prog 14 #[u, v] w fun e w' => e = .returned (.bool true) ∧ Below w.heap.size w w' := by
  have HU := Lib.hid hu
  have HV := Lib.hid hv
  have HRr := Lib.hid hr
  obtain ⟨a, ca, rfl, hc1, hc2⟩ := hu.length
  obtain ⟨b, cb, rfl, -, -⟩ := hv.length
  obtain ⟨n, hn⟩ : ∃ n, L.length = n := ⟨_, rfl⟩
  rw [hn] at HU HV hc1 ⊢
  have hnb : n ≤ 9223372036854775807 := by unfold maxLen at hc2; omega
  have HN := Lib.hid hn
  clear hu hv hn hr hc1 hc2
  go_enter Tryd.func14, Tryd.ntmps14
  go_wp2
  go_loopw [5] (fun i wr => ∃ k : Nat, i = .int .i64 (k : Int) ∧ k ≤ n ∧ RowKit.Hid (Below w.heap.size w wr)) (fun i _ => n - (intOf i).toNat)
  case atStart => exact ⟨0, rfl, Nat.zero_le _, Below.refl _ _⟩
  case round =>
    obtain ⟨k, rfl, hk, HB⟩ := hrel
    by_cases hkn : k < n
    · have i1 : (0 : Int) ≤ (k : Int) := by omega
      have i2 : (k : Int) < (n : Int) := by omega
      obtain ⟨g, o, ca', x, he, hg, c0, c1, c2, c3, c4, hq⟩ := (HU.out.after HB.out).at k (by rw [HN.out]; exact hkn)
      obtain ⟨ha, -, hcp⟩ := Value.slice.inj he
      subst ha hcp
      obtain ⟨g2, o2, cb', y, he2, hg2, d0, d1, d2, d3, d4, hq2⟩ := (HV.out.after HB.out).at k (by rw [HN.out]; exact hkn)
      obtain ⟨hb, -, hcp2⟩ := Value.slice.inj he2
      subst hb hcp2
      obtain ⟨r, hre⟩ : ∃ r, L.getD k rec0 = r := ⟨_, rfl⟩
      rw [hre] at c0 c1 c2 c3 hq d0 d1 d2 d3 hq2
      have cS := fun W h1 h2 => refSame08_any r r x y W h1 h2 true (HRr.out r)
      obtain ⟨ua, uc, rfl, -, -⟩ := hq.length
      obtain ⟨va, vc, rfl, -, -⟩ := hq2.length
      obtain ⟨ul, hul⟩ : ∃ m, r.fields.length = m := ⟨_, rfl⟩
      rw [hul] at hq hq2 c4 d4 cS
      unfold RV at cS
      have H1 : RowKit.Hid (∀ W, Below wr.heap.size wr W → (W.cell? ⟨g, o + k * 5, none⟩ = some (.int .i64 r.id) ∧ W.cell? ⟨g, o + k * 5 + 1, none⟩ = some (.int .i64 r.ver) ∧ W.cell? ⟨g, o + k * 5 + 2, none⟩ = some (.int .i64 r.kind) ∧ W.cell? ⟨g, o + k * 5 + 3, none⟩ = some (.string (S r.lang)) ∧ W.cell? ⟨g, o + k * 5 + 4, none⟩ = some (.slice ua ul uc)) ∧ FL (.slice ua ul uc) r.fields W) := fun W hW =>
        ⟨⟨(hW.cell (p := ⟨g, o + k * 5, none⟩) hg).trans c0, (hW.cell (p := ⟨g, o + k * 5 + 1, none⟩) hg).trans c1, (hW.cell (p := ⟨g, o + k * 5 + 2, none⟩) hg).trans c2, (hW.cell (p := ⟨g, o + k * 5 + 3, none⟩) hg).trans c3, (hW.cell (p := ⟨g, o + k * 5 + 4, none⟩) hg).trans c4⟩, hq.after hW⟩
      have H2 : RowKit.Hid (∀ W, Below wr.heap.size wr W → (W.cell? ⟨g2, o2 + k * 5, none⟩ = some (.int .i64 r.id) ∧ W.cell? ⟨g2, o2 + k * 5 + 1, none⟩ = some (.int .i64 r.ver) ∧ W.cell? ⟨g2, o2 + k * 5 + 2, none⟩ = some (.int .i64 r.kind) ∧ W.cell? ⟨g2, o2 + k * 5 + 3, none⟩ = some (.string (S r.lang)) ∧ W.cell? ⟨g2, o2 + k * 5 + 4, none⟩ = some (.slice va ul vc)) ∧ FL (.slice va ul vc) r.fields W) := fun W hW =>
        ⟨⟨(hW.cell (p := ⟨g2, o2 + k * 5, none⟩) hg2).trans d0, (hW.cell (p := ⟨g2, o2 + k * 5 + 1, none⟩) hg2).trans d1, (hW.cell (p := ⟨g2, o2 + k * 5 + 2, none⟩) hg2).trans d2, (hW.cell (p := ⟨g2, o2 + k * 5 + 3, none⟩) hg2).trans d3, (hW.cell (p := ⟨g2, o2 + k * 5 + 4, none⟩) hg2).trans d4⟩, hq2.after hW⟩
      replace cS := Lib.hid cS
      clear he he2 hre hul c0 c1 c2 c3 c4 d0 d1 d2 d3 d4 hq hq2 hg hg2
      go_upto_region 6 with fail
      apply wp_region_rel (R := fun u v => Below u.heap.size u v) (V := [SPR.eq _ (.slice (some ⟨g, o, none⟩) n ca), SPR.eq _ (.int .i64 (k : Int)), SPR.eq _ (.pointer (some ⟨g, o + k * 5, none⟩)), SPR.eq _ (.agg #[.int .i64 r.id, .int .i64 r.ver, .int .i64 r.kind, .string (S r.lang), .slice ua ul uc]), SPR.eq _ (.slice (some ⟨g2, o2, none⟩) n cb), SPR.eq _ (.int .i64 (k : Int)), SPR.eq _ (.pointer (some ⟨g2, o2 + k * 5, none⟩)), SPR.eq _ (.agg #[.int .i64 r.id, .int .i64 r.ver, .int .i64 r.kind, .string (S r.lang), .slice va ul vc]), SPR.eq _ (.bool true), SPR.eq _ (.bool false)])
      case htrans => exact fun _ _ _ h k => h.trans (k.mono h.size)
      case hdrew => exact (Below.refl _ _).drew
      case hm => kernel_rfl
      case hd => kernel_rfl
      case hb => kernel_rfl
      case hA =>
        intro vs
        simp only [puts, Act.put, List.setIfInBounds_toArray, List.set_cons_zero, List.set_cons_succ]
        exact rfl
      case hob =>
        refine ObsR.cons _ _ _ _ _ _ _ ?o0 (ObsR.cons _ _ _ _ _ _ _ ?o1 (ObsR.cons _ _ _ _ _ _ _ ?o2 (ObsR.cons _ _ _ _ _ _ _ ?o3 (ObsR.cons _ _ _ _ _ _ _ ?o4 (ObsR.cons _ _ _ _ _ _ _ ?o5 (ObsR.cons _ _ _ _ _ _ _ ?o6 (ObsR.cons _ _ _ _ _ _ _ ?o7 (ObsR.cons _ _ _ _ _ _ _ ?o8 (ObsR.cons _ _ _ _ _ _ _ ?o9 (ObsR.nil _ _ _ _ _ _ _))))))))))
        case o0 =>
          intro vs W hw hd K hK
          go_simp
          exact hK.out _ _ rfl (Below.refl _ _)
        case o1 =>
          intro vs W hw hd K hK
          go_simp
          exact hK.out _ _ rfl (Below.refl _ _)
        case o2 =>
          intro vs W hw hd K hK
          have h0 : vs 0 = .slice (some ⟨g, o, none⟩) n ca := hd 0 (by kernel_rfl)
          have h1 : vs 1 = .int .i64 (k : Int) := hd 1 (by kernel_rfl)
          simp only [Nat.reduceAdd, h0, h1] at hK ⊢
          go_simp
          exact hK.out _ _ rfl (Below.refl _ _)
        case o3 =>
          intro vs W hw hd K hK
          have h2 : vs 2 = .pointer (some ⟨g, o + k * 5, none⟩) := hd 2 (by kernel_rfl)
          obtain ⟨⟨k0, k1, k2, k3, k4⟩, -⟩ := H1.out W hw
          simp only [Nat.reduceAdd, h2] at hK ⊢
          go_simp
          exact hK.out _ _ rfl (Below.refl _ _)
        case o4 =>
          intro vs W hw hd K hK
          go_simp
          exact hK.out _ _ rfl (Below.refl _ _)
        case o5 =>
          intro vs W hw hd K hK
          go_simp
          exact hK.out _ _ rfl (Below.refl _ _)
        case o6 =>
          intro vs W hw hd K hK
          have h4 : vs 4 = .slice (some ⟨g2, o2, none⟩) n cb := hd 4 (by kernel_rfl)
          have h5 : vs 5 = .int .i64 (k : Int) := hd 5 (by kernel_rfl)
          simp only [Nat.reduceAdd, h4, h5] at hK ⊢
          go_simp
          exact hK.out _ _ rfl (Below.refl _ _)
        case o7 =>
          intro vs W hw hd K hK
          have h6 : vs 6 = .pointer (some ⟨g2, o2 + k * 5, none⟩) := hd 6 (by kernel_rfl)
          obtain ⟨⟨k0, k1, k2, k3, k4⟩, -⟩ := H2.out W hw
          simp only [Nat.reduceAdd, h6] at hK ⊢
          go_simp
          exact hK.out _ _ rfl (Below.refl _ _)
        case o8 =>
          intro vs W hw hd K hK
          have h3 : vs 3 = .agg #[.int .i64 r.id, .int .i64 r.ver, .int .i64 r.kind, .string (S r.lang), .slice ua ul uc] := hd 3 (by kernel_rfl)
          have h7 : vs 7 = .agg #[.int .i64 r.id, .int .i64 r.ver, .int .i64 r.kind, .string (S r.lang), .slice va ul vc] := hd 7 (by kernel_rfl)
          simp only [Nat.reduceAdd, h3, h7] at hK ⊢
          go_simp
          refine (cS.out W (H1.out W hw).2 (H2.out W hw).2).mono ?_
          rintro e W' ⟨rfl, hb'⟩
          exact hK.out _ _ rfl hb'
        case o9 =>
          intro vs W hw hd K hK
          have h8 : vs 8 = .bool true := hd 8 (by kernel_rfl)
          simp only [Nat.reduceAdd, h8] at hK ⊢
          go_simp
          exact hK.out _ _ rfl (Below.refl _ _)
      case hfin =>
        intro vs W hw hv'
        have e9 : vs 9 = .bool false := hv' 9 (by decide)
        simp only [Nat.reduceAdd, e9]
        have HB2 := Lib.hid (HB.out.trans (hw.mono HB.out.size))
        clear hv' hw e9
        go_wp2
        go_roundw
        case rel => exact ⟨k + 1, by go_num, by omega, HB2⟩
        case measure => simp [intOf]; omega
    · obtain rfl : k = n := by omega
      go_wp2
      go_ret
      exact ⟨rfl, HB.out⟩

set_option maxHeartbeats 16000000 in
set_option maxRecDepth 100000 in
theorem refSmallRecords_any (L : List Rec) (v : Value) (m : Nat) (hm6 : m ≤ 1000000) (w : World) (hv : RL v L w) :
    Calls Tryd.prog 13 #[v, .int .i64 (m : Int)] w fun e w' => ∃ b, e = .returned (.bool b) ∧ Below w.heap.size w w' ∧ (b = true → L.length ≤ m ∧ ∀ i, i < L.length → smallRB (L.getD i rec0) = true) := by
  obtain ⟨Q, hQ⟩ : ∃ Q, (fun (e : Ending) (w' : World) => ∃ b, e = .returned (.bool b) ∧ Below w.heap.size w w' ∧ (b = true → L.length ≤ m ∧ ∀ i, i < L.length → smallRB (L.getD i rec0) = true)) = Q := ⟨_, rfl⟩
  rw [hQ]
  have HQ : RowKit.Hid (∀ e w', (∃ b, e = .returned (.bool b) ∧ Below w.heap.size w w' ∧ (b = true → L.length ≤ m ∧ ∀ i, i < L.length → smallRB (L.getD i rec0) = true)) → Q e w') := by rw [← hQ]; exact fun _ _ h => h
  clear hQ
  have HV := Lib.hid hv
  obtain ⟨a, cap, rfl, -, -⟩ := hv.length
  obtain ⟨n, hn⟩ : ∃ n, L.length = n := ⟨_, rfl⟩
  rw [hn] at HV ⊢
  have HN := Lib.hid hn
  clear hv hn
  by_cases h8 : m < n
  · have t1 : decide ((m : Int) < (n : Int)) = true := decide_eq_true (by omega)
    have t1' : decide (m < n) = true := decide_eq_true h8
    clear h8
    go_enter Tryd.func13, Tryd.ntmps13
    go_wp2
    first | exact HQ.out _ _ ⟨_, rfl, Below.refl _ _, fun h => by cases h⟩ | (go_ret; exact HQ.out _ _ ⟨_, rfl, Below.refl _ _, fun h => by cases h⟩)
  · have t1 : decide ((m : Int) < (n : Int)) = false := decide_eq_false (by omega)
    have t1' : decide (m < n) = false := decide_eq_false h8
    have hn8 : n ≤ m := by omega
    clear h8
    go_enter Tryd.func13, Tryd.ntmps13
    go_wp2
    go_loopw [5] (fun i wr => ∃ k : Nat, i = .int .i64 (k : Int) ∧ k ≤ n ∧ RowKit.Hid (∀ i, i < k → smallRB (L.getD i rec0) = true) ∧ RowKit.Hid (Below w.heap.size w wr)) (fun i _ => n - (intOf i).toNat)
    case atStart => exact ⟨0, rfl, Nat.zero_le _, (fun i hi => by omega), Below.refl _ _⟩
    case round =>
      obtain ⟨k, rfl, hk, HJ, HB⟩ := hrel
      by_cases hkn : k < n
      · have i1 : (0 : Int) ≤ (k : Int) := by omega
        have i2 : (k : Int) < (n : Int) := by omega
        obtain ⟨g, o, cap', u, he, hg, c0, c1, c2, c3, c4, hq⟩ := (HV.out.after HB.out).at k (by rw [HN.out]; exact hkn)
        obtain ⟨ha, -, hcp⟩ := Value.slice.inj he
        subst ha hcp
        obtain ⟨r, hre⟩ : ∃ r, L.getD k rec0 = r := ⟨_, rfl⟩
        rw [hre] at c0 c1 c2 c3 hq
        have HRe := Lib.hid hre
        obtain ⟨b, hb⟩ : ∃ b, smallRB r = b := ⟨_, rfl⟩
        have cS := refSmall_any r u wr hq b hb
        have HSb := Lib.hid hb
        obtain ⟨ua, uc, hue, -, -⟩ := hq.length
        obtain ⟨ul, hul⟩ : ∃ m, r.fields.length = m := ⟨_, rfl⟩
        rw [hul] at hue
        subst hue
        unfold RV at cS
        have CS := Lib.hid cS
        clear he hre hq hul cS hb
        go_wp2_with fail
        refine CS.out.mono ?_
        rintro e w2 ⟨rfl, hb2⟩
        have HB2 : RowKit.Hid (Below w.heap.size w w2) := HB.out.trans (hb2.mono HB.out.size)
        have d4 := (hb2.cell (p := ⟨g, o + k * 5 + 4, none⟩) hg).trans c4
        clear hb2 c0 c1 c2 c3 c4 CS
        cases b with
        | false =>
          clear HSb
          go_wp2
          first | exact HQ.out _ _ ⟨_, rfl, HB2.out, fun h => by cases h⟩ | (go_ret; exact HQ.out _ _ ⟨_, rfl, HB2.out, fun h => by cases h⟩)
        | true =>
          have HJ2 : RowKit.Hid (∀ i, i < k + 1 → smallRB (L.getD i rec0) = true) := by
            intro i hi
            rcases Nat.lt_or_ge i k with h | h
            · exact HJ.out i h
            · rw [show i = k by omega, HRe.out]
              exact HSb.out
          clear HSb
          go_wp2
          go_roundw
          case rel => exact ⟨k + 1, by go_num, by omega, HJ2, HB2⟩
          case measure => simp [intOf]; omega
      · obtain rfl : k = n := by omega
        have HS : RowKit.Hid (L.length ≤ m ∧ ∀ i, i < L.length → smallRB (L.getD i rec0) = true) := by
          unfold RowKit.Hid
          rw [HN.out]
          exact ⟨hn8, HJ.out⟩
        go_wp2
        first | exact HQ.out _ _ ⟨_, rfl, HB.out, fun _ => HS.out⟩ | (go_ret; exact HQ.out _ _ ⟨_, rfl, HB.out, fun _ => HS.out⟩)
end

end Go.Proofs.YtnfallkeicehiaaDoor

/- Merged: LB10, LC10, Al10. -/
import Derived.Test.YtiledacfdaenbaaDoorQ32
import Derived.Test.YtiledacfdaenbaaDoorQ25
namespace Go.Proofs.YtiledacfdaenbaaDoor

section
open Go.RowKit Go.PlainAid
def smallV (r : Rec) : Prop := r.fields.length ≤ 70 ∧ r.lang.length ≤ 300 ∧ ∀ i, i < r.fields.length → (r.fields.getD i fd0).subs.length ≤ 20 ∧ ∀ j, j < (r.fields.getD i fd0).subs.length → ((r.fields.getD i fd0).subs.getD j sub0).2.length ≤ 300
set_option maxHeartbeats 16000000 in
set_option maxRecDepth 100000 in
theorem lsmall_any (r : Rec) (u : Value) (w : World) (hu : FL u r.fields w) :
    Calls Tryd.prog 9 #[RV r u] w fun e w' => ∃ b, e = .returned (.bool b) ∧ Below w.heap.size w w' ∧ (b = true → smallV r) := by
  obtain ⟨Q, hQ⟩ : ∃ Q, (fun (e : Ending) (w' : World) => ∃ b, e = .returned (.bool b) ∧ Below w.heap.size w w' ∧ (b = true → smallV r)) = Q := ⟨_, rfl⟩
  rw [hQ]
  have HQ : RowKit.Hid (∀ e w', (∃ b, e = .returned (.bool b) ∧ Below w.heap.size w w' ∧ (b = true → smallV r)) → Q e w') := by rw [← hQ]; exact fun _ _ h => h
  clear hQ
  have HU := Lib.hid hu
  obtain ⟨ua, uc, hue, hcap, hmax⟩ := hu.length
  unfold maxLen at hmax
  subst hue
  unfold RV
  obtain ⟨un, hun⟩ : ∃ n, r.fields.length = n := ⟨_, rfl⟩
  rw [hun] at HU hcap ⊢
  have HN := Lib.hid hun
  obtain ⟨ll, hll⟩ : ∃ n, r.lang.length = n := ⟨_, rfl⟩
  have HLl := Lib.hid hll
  have hls := S_size r.lang
  rw [hll] at hls
  obtain ⟨W0, hW0⟩ : ∃ W0, w.alloc (.cells #[.int .i64 r.id, .int .i64 r.ver, .int .i64 r.kind, .string (S r.lang), .slice ua un uc] 24) = W0 := ⟨_, rfl⟩
  have b0 : Below w.heap.size w W0 := by rw [← hW0]; exact (Below.refl w.heap.size w).alloc (Nat.le_refl _) _
  have hR0 : W0.heap[w.heap.size]? = some (.cells #[.int .i64 r.id, .int .i64 r.ver, .int .i64 r.kind, .string (S r.lang), .slice ua un uc] 24 (0, 0)) := by rw [← hW0]; exact heap_alloc_new w _
  have hlt0 : w.heap.size < W0.heap.size := by rw [← hW0]; simp
  have HU0 := Lib.hid (HU.out.after b0)
  have HR0 := Lib.hid hR0
  have B0 := Lib.hid b0
  have HW0 := Lib.hid hW0
  obtain ⟨⟨r0, r1, r2, r3, r4⟩, -⟩ := rcells hR0
  clear r0 r1 r2 hW0 hR0 b0 HU hu hun hll
  go_enter Tryd.func9, Tryd.ntmps9
  go_upto_region 1 with fail
  rw [HW0.out]
  clear HW0
  by_cases h70 : 70 < un
  · have t1 : decide ((70 : Int) < (un : Int)) = true := decide_eq_true (by omega)
    have t1' : decide (70 < un) = true := decide_eq_true h70
    clear h70
    go_wp2
    exact HQ.out _ _ ⟨_, rfl, B0.out, fun h => by cases h⟩
  have t1 : decide ((70 : Int) < (un : Int)) = false := decide_eq_false (by omega)
  have t1' : decide (70 < un) = false := decide_eq_false h70
  by_cases h300 : 300 < ll
  · have t2 : decide ((300 : Int) < (ll : Int)) = true := decide_eq_true (by omega)
    have t2' : decide (300 < ll) = true := decide_eq_true h300
    clear h300 h70
    go_wp2
    exact HQ.out _ _ ⟨_, rfl, B0.out, fun h => by cases h⟩
  have t2 : decide ((300 : Int) < (ll : Int)) = false := decide_eq_false (by omega)
  have t2' : decide (300 < ll) = false := decide_eq_false h300
  have hun70 : un ≤ 70 := by omega
  have HL3 := Lib.hid (show ll ≤ 300 by omega)
  clear h300 h70
  go_wp2
  clear r3 r4
  go_loopw [3] (fun i wr => ∃ k : Nat, i = .int .i64 (k : Int) ∧ k ≤ un ∧ RowKit.Hid (∀ i, i < k → (r.fields.getD i fd0).subs.length ≤ 20 ∧ ∀ j, j < (r.fields.getD i fd0).subs.length → ((r.fields.getD i fd0).subs.getD j sub0).2.length ≤ 300) ∧ RowKit.Hid (Below W0.heap.size W0 wr)) (fun i _ => un - (intOf i).toNat)
  case atStart => exact ⟨0, rfl, Nat.zero_le _, (fun i hi => by omega), Below.refl _ _⟩
  case round =>
    obtain ⟨k, rfl, hk, HJ, HB⟩ := hrel
    obtain ⟨⟨r0, r1, r2, r3, r4⟩, -⟩ := rcells ((HB.out.block w.heap.size hlt0).trans HR0.out)
    clear r0 r1 r2 r3
    by_cases hkn : k < un
    · have i1 : (0 : Int) ≤ (k : Int) := by omega
      have i2 : (k : Int) < (un : Int) := by omega
      obtain ⟨g, o, cap', x, he, hg, e0, e1, e2, e3, hq⟩ := (HU0.out.after HB.out).at k (by rw [HN.out]; exact hkn)
      obtain ⟨ha, -, hcp⟩ := Value.slice.inj he
      subst ha hcp
      obtain ⟨f, hf⟩ : ∃ f, r.fields.getD k fd0 = f := ⟨_, rfl⟩
      rw [hf] at e0 e1 e3 hq
      have HF := Lib.hid hf
      obtain ⟨ax, cs, hx, hcs, hmx⟩ := hq.length
      unfold maxLen at hmx
      obtain ⟨ns, hns⟩ : ∃ n, f.subs.length = n := ⟨_, rfl⟩
      rw [hns] at hx hcs
      subst hx
      have HNs := Lib.hid hns
      have HBw := Lib.hid (HB.out.trans (((Below.refl wr.heap.size wr).alloc (Nat.le_refl _) (.cells #[.string (S f.tag), .string (S f.ind), .slice ax ns cs, .int .i64 f.auth] 49)).mono HB.out.size))
      have hbox := heap_alloc_new wr (.cells #[.string (S f.tag), .string (S f.ind), .slice ax ns cs, .int .i64 f.auth] 49)
      have hqa := hq.after ((Below.refl wr.heap.size wr).alloc (Nat.le_refl _) (.cells #[.string (S f.tag), .string (S f.ind), .slice ax ns cs, .int .i64 f.auth] 49))
      obtain ⟨W1, hW1⟩ : ∃ W1, wr.alloc (.cells #[.string (S f.tag), .string (S f.ind), .slice ax ns cs, .int .i64 f.auth] 49) = W1 := ⟨_, rfl⟩
      obtain ⟨m, hm⟩ : ∃ m, wr.heap.size = m := ⟨_, rfl⟩
      rw [hW1, hm] at hbox
      rw [hW1] at HBw hqa
      obtain ⟨⟨x0, x1, x2, x3⟩, -⟩ := fcells hbox
      have HBox := Lib.hid hbox
      have hmlt : m < W1.heap.size := (Array.getElem?_eq_some_iff.1 hbox).1
      have HQ1 := Lib.hid hqa
      have HW1 := Lib.hid hW1
      have hts := S_size f.tag
      have his := S_size f.ind
      obtain ⟨tl, htl⟩ : ∃ n, f.tag.length = n := ⟨_, rfl⟩
      obtain ⟨il, hil⟩ : ∃ n, f.ind.length = n := ⟨_, rfl⟩
      rw [htl] at hts
      rw [hil] at his
      have hb9 := Lib.hid (B0.out.trans (HBw.out.mono B0.out.size))
      clear he hf hns hbox hqa hW1 hq htl hil
      go_upto_region 7 with fail
      rw [HW1.out]
      clear hm e0 e1 e2 e3 r4 HW1
      by_cases h20 : 20 < ns
      · have v1 : decide ((20 : Int) < (ns : Int)) = true := decide_eq_true (by omega)
        have v1' : decide (20 < ns) = true := decide_eq_true h20
        clear h20
        go_wp2
        first | exact HQ.out _ _ ⟨_, rfl, hb9.out, fun h => by cases h⟩ | (go_ret; exact HQ.out _ _ ⟨_, rfl, hb9.out, fun h => by cases h⟩) | (refine bodyPost_ret (results_tmp rfl _ _ _) rfl ?_; exact HQ.out _ _ ⟨_, rfl, hb9.out, fun h => by cases h⟩)
      have v1 : decide ((20 : Int) < (ns : Int)) = false := decide_eq_false (by omega)
      have v1' : decide (20 < ns) = false := decide_eq_false h20
      by_cases h3a : 300 < tl
      · have v2 : decide ((300 : Int) < (tl : Int)) = true := decide_eq_true (by omega)
        have v2' : decide (300 < tl) = true := decide_eq_true h3a
        clear h3a h20
        go_wp2
        first | exact HQ.out _ _ ⟨_, rfl, hb9.out, fun h => by cases h⟩ | (go_ret; exact HQ.out _ _ ⟨_, rfl, hb9.out, fun h => by cases h⟩) | (refine bodyPost_ret (results_tmp rfl _ _ _) rfl ?_; exact HQ.out _ _ ⟨_, rfl, hb9.out, fun h => by cases h⟩)
      have v2 : decide ((300 : Int) < (tl : Int)) = false := decide_eq_false (by omega)
      have v2' : decide (300 < tl) = false := decide_eq_false h3a
      by_cases h3b : 300 < il
      · have v3 : decide ((300 : Int) < (il : Int)) = true := decide_eq_true (by omega)
        have v3' : decide (300 < il) = true := decide_eq_true h3b
        clear h3a h20 h3b
        go_wp2
        first | exact HQ.out _ _ ⟨_, rfl, hb9.out, fun h => by cases h⟩ | (go_ret; exact HQ.out _ _ ⟨_, rfl, hb9.out, fun h => by cases h⟩) | (refine bodyPost_ret (results_tmp rfl _ _ _) rfl ?_; exact HQ.out _ _ ⟨_, rfl, hb9.out, fun h => by cases h⟩)
      have v3 : decide ((300 : Int) < (il : Int)) = false := decide_eq_false (by omega)
      have v3' : decide (300 < il) = false := decide_eq_false h3b
      have h20' : ns ≤ 20 := by omega
      clear h3a h20 h3b
      go_wp2
      go_loopw [5] (fun i wr => ∃ j : Nat, i = .int .i64 (j : Int) ∧ j ≤ ns ∧ RowKit.Hid (∀ i, i < j → (f.subs.getD i sub0).2.length ≤ 300) ∧ RowKit.Hid (Below W1.heap.size W1 wr)) (fun i _ => ns - (intOf i).toNat)
      case atStart => exact ⟨0, rfl, Nat.zero_le _, (fun i hi => by omega), Below.refl _ _⟩
      case round =>
        obtain ⟨j, rfl, hj, HI, HBi⟩ := hrel
        clear x0 x1 x2 x3
        obtain ⟨⟨x0, x1, x2, x3⟩, -⟩ := fcells ((HBi.out.block m hmlt).trans HBox.out)
        have hbi := Lib.hid (hb9.out.trans (HBi.out.mono hb9.out.size))
        by_cases hjn : j < ns
        · have j1 : (0 : Int) ≤ (j : Int) := by omega
          have j2 : (j : Int) < (ns : Int) := by omega
          obtain ⟨g2, o2, hax, hg2, c1, c2⟩ : ∃ g2 o2, ax = some ⟨g2, o2, none⟩ ∧ g2 < wr.heap.size ∧ wr.cell? ⟨g2, o2 + j * 2, none⟩ = some (.int .u8 ((f.subs.getD j sub0).1.toNat : Int)) ∧ wr.cell? ⟨g2, o2 + j * 2 + 1, none⟩ = some (.string (S (f.subs.getD j sub0).2)) := by
            obtain ⟨a', cap', he, _, _, _, hx⟩ := HQ1.out.after HBi.out
            obtain ⟨g2, o2, h1, h2, h3, h4⟩ := hx j (by rw [HNs.out]; exact hjn)
            obtain ⟨rfl, -, -⟩ := Value.slice.inj he
            exact ⟨g2, o2, h1, h2, h3, h4⟩
          subst hax
          have hvs := S_size (f.subs.getD j sub0).2
          obtain ⟨vl, hvl⟩ : ∃ n, (f.subs.getD j sub0).2.length = n := ⟨_, rfl⟩
          rw [hvl] at hvs
          have HVl := Lib.hid hvl
          clear hvl c1 hg2
          generalize S (f.subs.getD j sub0).2 = sv at *
          by_cases h3c : 300 < vl
          · have v4 : decide ((300 : Int) < (vl : Int)) = true := decide_eq_true (by omega)
            have v4' : decide (300 < vl) = true := decide_eq_true h3c
            clear h3c
            go_wp2
            first | exact HQ.out _ _ ⟨_, rfl, hbi.out, fun h => by cases h⟩ | (go_ret; exact HQ.out _ _ ⟨_, rfl, hbi.out, fun h => by cases h⟩) | (refine bodyPost_ret (results_tmp rfl _ _ _) rfl ?_; exact HQ.out _ _ ⟨_, rfl, hbi.out, fun h => by cases h⟩)
          · have v4 : decide ((300 : Int) < (vl : Int)) = false := decide_eq_false (by omega)
            have v4' : decide (300 < vl) = false := decide_eq_false h3c
            have HI2 : RowKit.Hid (∀ i, i < j + 1 → (f.subs.getD i sub0).2.length ≤ 300) := by
              intro i hi
              rcases Nat.lt_or_ge i j with h | h
              · exact HI.out i h
              · rw [show i = j by omega, HVl.out]
                omega
            clear h3c
            go_wp2
            go_roundw
            case rel => exact ⟨j + 1, by go_num, by omega, HI2, HBi⟩
            case measure => simp [intOf]; omega
        · obtain rfl : j = ns := by omega
          have HJ2 : RowKit.Hid (∀ i, i < k + 1 → (r.fields.getD i fd0).subs.length ≤ 20 ∧ ∀ j, j < (r.fields.getD i fd0).subs.length → ((r.fields.getD i fd0).subs.getD j sub0).2.length ≤ 300) := by
            intro i hi
            rcases Nat.lt_or_ge i k with h | h
            · exact HJ.out i h
            · rw [show i = k by omega, HF.out, HNs.out]
              exact ⟨h20', HI.out⟩
          have HBk := Lib.hid (HBw.out.trans (HBi.out.mono HBw.out.size))
          go_wp2
          go_roundw
          case rel => exact ⟨k + 1, by go_num, by omega, HJ2, HBk⟩
          case measure => simp [intOf]; omega
    · obtain rfl : k = un := by omega
      have HS : RowKit.Hid (smallV r) := ⟨by rw [HN.out]; exact hun70, by rw [HLl.out]; exact HL3.out, fun i hi => HJ.out i (by rw [HN.out] at hi; exact hi)⟩
      have hb9 := Lib.hid (B0.out.trans (HB.out.mono B0.out.size))
      go_wp2
      first | exact HQ.out _ _ ⟨_, rfl, hb9.out, fun _ => HS.out⟩ | (go_ret; exact HQ.out _ _ ⟨_, rfl, hb9.out, fun _ => HS.out⟩)
end

section
open Go.RowKit Go.PlainAid
set_option maxHeartbeats 16000000 in
set_option maxRecDepth 100000 in
theorem lfew_any (L : List Rec) (v : Value) (w : World) (hv : RL v L w) :
    Calls Tryd.prog 15 #[v] w fun e w' => ∃ b, e = .returned (.bool b) ∧ Below w.heap.size w w' ∧ (b = true → L.length ≤ 8 ∧ ∀ i, i < L.length → smallV (L.getD i rec0)) := by
  obtain ⟨Q, hQ⟩ : ∃ Q, (fun (e : Ending) (w' : World) => ∃ b, e = .returned (.bool b) ∧ Below w.heap.size w w' ∧ (b = true → L.length ≤ 8 ∧ ∀ i, i < L.length → smallV (L.getD i rec0))) = Q := ⟨_, rfl⟩
  rw [hQ]
  have HQ : RowKit.Hid (∀ e w', (∃ b, e = .returned (.bool b) ∧ Below w.heap.size w w' ∧ (b = true → L.length ≤ 8 ∧ ∀ i, i < L.length → smallV (L.getD i rec0))) → Q e w') := by rw [← hQ]; exact fun _ _ h => h
  clear hQ
  have HV := Lib.hid hv
  obtain ⟨a, cap, rfl, -, -⟩ := hv.length
  obtain ⟨n, hn⟩ : ∃ n, L.length = n := ⟨_, rfl⟩
  rw [hn] at HV ⊢
  have HN := Lib.hid hn
  clear hv hn
  by_cases h8 : 8 < n
  · have t1 : decide ((8 : Int) < (n : Int)) = true := decide_eq_true (by omega)
    have t1' : decide (8 < n) = true := decide_eq_true h8
    clear h8
    go_enter Tryd.func15, Tryd.ntmps15
    go_wp2
    first | exact HQ.out _ _ ⟨_, rfl, Below.refl _ _, fun h => by cases h⟩ | (go_ret; exact HQ.out _ _ ⟨_, rfl, Below.refl _ _, fun h => by cases h⟩)
  · have t1 : decide ((8 : Int) < (n : Int)) = false := decide_eq_false (by omega)
    have t1' : decide (8 < n) = false := decide_eq_false h8
    have hn8 : n ≤ 8 := by omega
    clear h8
    go_enter Tryd.func15, Tryd.ntmps15
    go_wp2
    go_loopw [3] (fun i wr => ∃ k : Nat, i = .int .i64 (k : Int) ∧ k ≤ n ∧ RowKit.Hid (∀ i, i < k → smallV (L.getD i rec0)) ∧ RowKit.Hid (Below w.heap.size w wr)) (fun i _ => n - (intOf i).toNat)
    case atStart => exact ⟨0, rfl, Nat.zero_le _, (fun i hi => by omega), Below.refl _ _⟩
    case round =>
      obtain ⟨k, rfl, hk, HJ, HB⟩ := hrel
      by_cases hkn : k < n
      · have i1 : (0 : Int) ≤ (k : Int) := by omega
        have i2 : (k : Int) < (n : Int) := by omega
        obtain ⟨g, o, cap', u, he, hg, c0, c1, c2, c3, c4, hq⟩ := (HV.out.after HB.out).at k (by rw [HN.out]; exact hkn)
        obtain ⟨ha, -, hcp⟩ := Value.slice.inj he
        subst ha hcp
        obtain ⟨r, hre⟩ : ∃ r, L.getD k rec0 = r := ⟨_, rfl⟩
        rw [hre] at c0 c1 c2 c3 hq
        have HRe := Lib.hid hre
        have cS := lsmall_any r u wr hq
        obtain ⟨ua, uc, hue, -, -⟩ := hq.length
        obtain ⟨ul, hul⟩ : ∃ m, r.fields.length = m := ⟨_, rfl⟩
        rw [hul] at hue
        subst hue
        unfold RV at cS
        have CS := Lib.hid cS
        clear he hre hq hul cS
        go_wp2_with fail
        refine CS.out.mono ?_
        rintro e w2 ⟨b, rfl, hb2, hsm⟩
        have HSm := Lib.hid hsm
        have HB2 : RowKit.Hid (Below w.heap.size w w2) := HB.out.trans (hb2.mono HB.out.size)
        have d4 := (hb2.cell (p := ⟨g, o + k * 5 + 4, none⟩) hg).trans c4
        clear hb2 hsm c0 c1 c2 c3 c4 CS
        cases b with
        | false =>
          clear HSm
          go_wp2
          first | exact HQ.out _ _ ⟨_, rfl, HB2.out, fun h => by cases h⟩ | (go_ret; exact HQ.out _ _ ⟨_, rfl, HB2.out, fun h => by cases h⟩)
        | true =>
          have HJ2 : RowKit.Hid (∀ i, i < k + 1 → smallV (L.getD i rec0)) := by
            intro i hi
            rcases Nat.lt_or_ge i k with h | h
            · exact HJ.out i h
            · rw [show i = k by omega, HRe.out]
              exact HSm.out rfl
          clear HSm
          by_cases h20 : 20 < ul
          · have v1 : decide ((20 : Int) < (ul : Int)) = true := decide_eq_true (by omega)
            have v1' : decide (20 < ul) = true := decide_eq_true h20
            clear h20
            go_wp2
            first | exact HQ.out _ _ ⟨_, rfl, HB2.out, fun h => by cases h⟩ | (go_ret; exact HQ.out _ _ ⟨_, rfl, HB2.out, fun h => by cases h⟩)
          · have v1 : decide ((20 : Int) < (ul : Int)) = false := decide_eq_false (by omega)
            have v1' : decide (20 < ul) = false := decide_eq_false h20
            clear h20
            go_wp2
            go_roundw
            case rel => exact ⟨k + 1, by go_num, by omega, HJ2, HB2⟩
            case measure => simp [intOf]; omega
      · obtain rfl : k = n := by omega
        have HS : RowKit.Hid (L.length ≤ 8 ∧ ∀ i, i < L.length → smallV (L.getD i rec0)) := by
          unfold RowKit.Hid
          rw [HN.out]
          exact ⟨hn8, HJ.out⟩
        go_wp2
        first | exact HQ.out _ _ ⟨_, rfl, HB.out, fun _ => HS.out⟩ | (go_ret; exact HQ.out _ _ ⟨_, rfl, HB.out, fun _ => HS.out⟩)
end

section
open Go.RowKit Go.PlainAid
def ex1 : Rec := ⟨7, 3, 1, [101, 110, 103], [⟨[50, 52, 53], [49, 48], [(97, [68, 111, 103, 115])], 0⟩]⟩
def ex2 : Rec := ⟨0, 3, 1, [101, 110, 103], []⟩
def ex1s : List UInt8 := [48, 48, 48, 53, 49, 110, 98, 51, 101, 110, 103, 48, 48, 48, 51, 55, 48, 48, 48, 55, 52, 53, 48, 48, 50, 52, 53, 48, 48, 49, 51, 48, 48, 48, 48, 48, 30, 49, 48, 48, 48, 48, 48, 31, 97, 68, 111, 103, 115, 30, 29]
theorem ex1_right : rightRI ex1 = 0 := by decide +kernel
theorem ex2_right : rightRI ex2 = 0 := by decide +kernel
theorem pad51 : padI 51 5 = [48, 48, 48, 53, 49] := by decide +kernel
theorem ex1_enc : encX ex1 = (ex1s, 0) := by decide +kernel
theorem ex2_enc : ∃ s, encX ex2 = (s, 0) ∧ s.length = 26 := ⟨formX ex2, by decide +kernel, by decide +kernel⟩
theorem imp_nil : impR [] = ([], -1, 0) := by
  unfold impR
  rw [splitF_nil]
  rfl
theorem spl_bad : splR [48, 48, 48, 50, 53] = ([], 3) := by
  unfold splR
  rw [splitF_bad _ (by simp) (by unfold badF; exact .inl (by decide +kernel))]
end

end Go.Proofs.YtiledacfdaenbaaDoor

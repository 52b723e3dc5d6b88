/- Merged: R08G, PC08, Plain08B. -/
import Derived.Test.YtcnjjdbpcobolaaGreatDoorQ16
import Derived.Laws.Cover1
import Derived.BigQuiet
import Derived.Test.YtcnjjdbpcobolaaGreatDoorQ15
import Derived.Test.YtcnjjdbpcobolaaGreatDoorQ12
import Derived.Test.YtcnjjdbpcobolaaGreatDoorQ05
import Derived.Test.YtcnjjdbpcobolaaGreatDoorQ13
import Derived.Test.YtcnjjdbpcobolaaGreatDoorQ10
namespace Go.Proofs.YtcnjjdbpcobolaaGreatDoor

section
open Go.RowKit Go.PlainAid Go.Lib
instance : Inhabited Fld := ⟨fd0⟩
theorem getF (L : List Fld) (i : Nat) : L[i]! = L.getD i fd0 := by
  rw [List.getElem!_eq_getElem?_getD, List.getD_eq_getElem?_getD]
  rfl
/-- One field goes to its place among sorted ones. -/
theorem ins_stab {N X : List Fld} {y : Fld} (h : Stab Fld.tag N X) (j : Nat) (hj : j ≤ N.length) (h1 : j = 0 ∨ kc Fld.tag (N.getD (j - 1) fd0) y ≤ 0) (h2 : ∀ i, j ≤ i → i < N.length → 0 < kc Fld.tag (N.getD i fd0) y) :
    Stab Fld.tag (N.take j ++ [y] ++ N.drop j) (X ++ [y]) := by
  have hN : Asc Fld.tag (N.take j ++ N.drop j) := by rw [List.take_append_drop]; exact h.asc
  have := Stab.back (key := Fld.tag) (y := y) hN (fun x hx => by
    obtain ⟨k, hk, hkl, rfl⟩ := get_mem_take hx
    rcases h1 with h1 | h1
    · omega
    · rw [← getF] at h1
      exact kc_le Fld.tag (h.asc.le (show k ≤ j - 1 by omega) (by omega)) h1) (fun x hx => by
    obtain ⟨k, hk, hkl, rfl⟩ := get_mem_drop hx
    have := h2 k hk hkl
    rw [← getF] at this
    rw [kc_anti]
    omega)
  rw [List.take_append_drop] at this
  have h3 := this.cong h.keep
  rwa [show N.take j ++ y :: N.drop j = N.take j ++ [y] ++ N.drop j by simp] at h3
/-- What the test on two tags comes to. -/
theorem gt_bits (a b : List UInt8) : ∃ b1 b2 : Bool, Op.bytesLess (S a).toList (S b).toList = b1 ∧ ((S a).toList == (S b).toList) = b2 ∧ (!(b1 || b2)) = decide (0 < compareBytes a b) := by
  refine ⟨_, _, rfl, rfl, ?_⟩
  rw [S_eq, show (S a).toList = a by rw [ByteArray.toList_eq]; rfl, show (S b).toList = b by rw [ByteArray.toList_eq]; rfl, cb_less]
  have hr := cb_range a b
  by_cases h1 : compareBytes a b = -1
  · rw [decide_eq_true h1, Bool.true_or, decide_eq_false (by omega)]; rfl
  · rw [decide_eq_false h1, Bool.false_or]
    by_cases h2 : a = b
    · rw [decide_eq_true h2, h2, cb_refl]; rfl
    · rw [decide_eq_false h2]
      have : compareBytes a b ≠ 0 := fun h => h2 (cb_eq a b h)
      rw [decide_eq_true (by omega)]; rfl
theorem below_drewN (a w : World) (n : Nat) (h : Below a.heap.size a w) : Below a.heap.size a (w.drewN n) := h.trans ⟨rfl, rfl, rfl, Nat.le_refl _, fun _ _ => rfl⟩
theorem FL.some_of {v : Value} {L : List Fld} {w : World} (h : FL v L w) (hn : v ≠ .slice none 0 0) : ∃ ad cap, v = .slice (some ad) L.length cap ∧ L.length ≤ cap ∧ cap ≤ maxLen := by
  obtain ⟨a, cap, rfl, hc, hm, h0, _⟩ := h
  cases a with
  | none =>
    obtain rfl := h0 rfl
    have : L.length = 0 := by omega
    rw [this] at hn
    exact absurd rfl hn
  | some ad => exact ⟨ad, cap, rfl, hc, hm⟩

theorem FR.vals {V : World} {B : Nat} {v : Value} {L : List Fld} {w : World} (h : FR V B v L w) : ∃ (a : Option Addr) (cap : Nat) (us : List Value), v = .slice a L.length cap ∧ L.length ≤ cap ∧ cap ≤ maxLen ∧ (a = none → cap = 0) ∧ us.length = L.length ∧ (∀ i, i < L.length → QL (us.getD i .nilIface) (L.getD i fd0).subs V) ∧
    ∀ i, i < L.length → ∃ g o, a = some ⟨g, o, none⟩ ∧ g < w.heap.size ∧ w.cell? ⟨g, o + i * 4, none⟩ = some (.string (S (L.getD i fd0).tag)) ∧ w.cell? ⟨g, o + i * 4 + 1, none⟩ = some (.string (S (L.getD i fd0).ind)) ∧
      w.cell? ⟨g, o + i * 4 + 2, none⟩ = some (us.getD i .nilIface) ∧ w.cell? ⟨g, o + i * 4 + 3, none⟩ = some (.int .i64 (L.getD i fd0).auth) := by
  obtain ⟨us, hl, hown, hq⟩ := h
  rcases hown.2 with ⟨rfl, h0⟩ | ⟨g, cap, cur, rfl, hb, hg, hc, hm, hs, ht⟩
  · have : L = [] := List.eq_nil_of_length_eq_zero h0
    subst this
    exact ⟨none, 0, us, rfl, Nat.le_refl _, Nat.zero_le _, fun _ => rfl, hl, hq, fun i hi => by cases hi⟩
  · have hadd : ∀ j, (⟨g, 0, none⟩ : Addr).add j = ⟨g, j, none⟩ := fun j => by unfold Addr.add; split <;> simp_all
    refine ⟨_, cap, us, rfl, hc, hm, (fun h => by cases h), hl, hq, fun i hi => ?_⟩
    have hcc := cellsF_at L us i hl hi
    have t0 := hown.cells (g := g) rfl _ _ hcc.1
    have t1 := hown.cells (g := g) rfl _ _ hcc.2.1
    have t2 := hown.cells (g := g) rfl _ _ hcc.2.2.1
    have t3 := hown.cells (g := g) rfl _ _ hcc.2.2.2
    rw [hadd] at t0 t1 t2 t3
    refine ⟨g, 0, rfl, (Array.getElem?_eq_some_iff.1 hg).1, ?_⟩
    rw [Nat.zero_add]
    exact ⟨t0, t1, t2, t3⟩
theorem own_base {w : World} {B B' e size n : Nat} {v : Value} {xs : List Value} (h : w.ownsRow B e size v n xs) (hb : B' ≤ B) : w.ownsRow B' e size v n xs := by
  refine ⟨h.1, ?_⟩
  rcases h.2 with hn | ⟨g, cap, cur, hv, hB, rest⟩
  · exact .inl hn
  · exact .inr ⟨g, cap, cur, hv, Nat.le_trans hb hB, rest⟩
theorem FR.base {V : World} {B B' : Nat} {v : Value} {L : List Fld} {w : World} (h : FR V B v L w) (hb : B' ≤ B) : FR V B' v L w := by
  obtain ⟨us, h1, h2, h3⟩ := h
  exact ⟨us, h1, own_base h2 hb, h3⟩
theorem FR.head {a : Option Addr} {B cap : Nat} {L : List Fld} {V W0 w : World} (h : FR V B (.slice a L.length cap) L W0) (i : Nat) (hi : i ≤ L.length) (hb : Below W0.heap.size W0 w) : NW V a (L.take i) w := by
  obtain ⟨a1, cap1, us, he, _, _, hn, hl, hq, hx⟩ := h.vals
  obtain ⟨rfl, -, rfl⟩ := Value.slice.inj he
  refine ⟨fun h0 => ?_, fun ad had => ⟨us.take i, by rw [List.length_take, List.length_take, hl], fun j hj => ?_, ?_⟩⟩
  · cases L with
    | nil => simp
    | cons f t =>
      obtain ⟨g, o, h1, _⟩ := hx 0 (by simp)
      rw [h0] at h1
      cases h1
  · rw [List.length_take] at hj
    have := hq j (by omega)
    rwa [List.getD_eq_getElem?_getD, List.getD_eq_getElem?_getD, List.getElem?_take_of_lt (by omega), List.getElem?_take_of_lt (by omega), ← List.getD_eq_getElem?_getD, ← List.getD_eq_getElem?_getD]
  · by_cases hz : i = 0
    · subst hz
      intro j u hu
      simp [cellsF] at hu
    · obtain ⟨g, o, h1, hg, _⟩ := hx 0 (by omega)
      rw [h1] at had
      obtain rfl := Option.some.inj had
      intro j u hu
      have hadd : (⟨g, o, none⟩ : Addr).add j = ⟨g, o + j, none⟩ := by unfold Addr.add; split <;> simp_all
      rw [hadd]
      refine cellsF_news (L.take i) (us.take i) o (by rw [List.length_take, List.length_take, hl]) (fun m hm => ?_) j u hu
      rw [List.length_take] at hm
      obtain ⟨g', o', h1', hg', c0, c1, c2, c3⟩ := hx m (by omega)
      rw [h1] at h1'
      obtain ⟨rfl, rfl⟩ : g = g' ∧ o = o' := by simpa using h1'
      rw [List.getD_eq_getElem?_getD, List.getD_eq_getElem?_getD, List.getElem?_take_of_lt (by omega), List.getElem?_take_of_lt (by omega), ← List.getD_eq_getElem?_getD, ← List.getD_eq_getElem?_getD]
      exact ⟨(hb.cell (p := ⟨g, o + m * 4, none⟩) hg).trans c0, (hb.cell (p := ⟨g, o + m * 4 + 1, none⟩) hg).trans c1, (hb.cell (p := ⟨g, o + m * 4 + 2, none⟩) hg).trans c2, (hb.cell (p := ⟨g, o + m * 4 + 3, none⟩) hg).trans c3⟩

theorem FR.tail {a : Option Addr} {B cap : Nat} {L : List Fld} {V W0 w : World} (h : FR V B (.slice a L.length cap) L W0) (i : Nat) (hi : i ≤ L.length) (hb : Below W0.heap.size W0 w) (ao : Option Addr) (hao : ∀ ad, a = some ad → i < L.length → ao = some (ad.add (i * 4))) :
    NW V ao (L.drop i) w := by
  obtain ⟨a1, cap1, us, he, _, _, hn, hl, hq, hx⟩ := h.vals
  obtain ⟨rfl, -, rfl⟩ := Value.slice.inj he
  have hd : ∀ j, (us.drop i).getD j .nilIface = us.getD (i + j) .nilIface ∧ (L.drop i).getD j fd0 = L.getD (i + j) fd0 := fun j => by
    constructor
    · rw [List.getD_eq_getElem?_getD, List.getElem?_drop, ← List.getD_eq_getElem?_getD]
    · rw [List.getD_eq_getElem?_getD, List.getElem?_drop, ← List.getD_eq_getElem?_getD]
  refine ⟨fun h0 => ?_, fun ad had => ⟨us.drop i, by rw [List.length_drop, List.length_drop, hl], fun j hj => ?_, ?_⟩⟩
  · by_cases hlt : i < L.length
    · obtain ⟨g, o, h1, _⟩ := hx i hlt
      rw [hao _ h1 hlt] at h0
      cases h0
    · exact List.drop_of_length_le (by omega)
  · rw [List.length_drop] at hj
    rw [(hd j).1, (hd j).2]
    exact hq (i + j) (by omega)
  · by_cases hlt : i < L.length
    · obtain ⟨g, o, h1, hg, _⟩ := hx i hlt
      rw [hao _ h1 hlt] at had
      obtain rfl := Option.some.inj had
      intro j u hu
      have hadd : ((⟨g, o, none⟩ : Addr).add (i * 4)).add j = ⟨g, o + i * 4 + j, none⟩ := by
        have e : ∀ (q m : Nat), (⟨g, q, none⟩ : Addr).add m = ⟨g, q + m, none⟩ := fun q m => by unfold Addr.add; split <;> simp_all
        rw [e, e]
      rw [hadd]
      refine cellsF_news (L.drop i) (us.drop i) (o + i * 4) (by rw [List.length_drop, List.length_drop, hl]) (fun m hm => ?_) j u hu
      rw [List.length_drop] at hm
      obtain ⟨g', o', h1', hg', c0, c1, c2, c3⟩ := hx (i + m) (by omega)
      rw [h1] at h1'
      obtain ⟨rfl, rfl⟩ : g = g' ∧ o = o' := by simpa using h1'
      rw [(hd m).1, (hd m).2, show o + i * 4 + m * 4 = o + (i + m) * 4 by omega]
      exact ⟨(hb.cell (p := ⟨g, o + (i + m) * 4, none⟩) hg).trans c0, (hb.cell (p := ⟨g, o + (i + m) * 4 + 1, none⟩) hg).trans c1, (hb.cell (p := ⟨g, o + (i + m) * 4 + 2, none⟩) hg).trans c2, (hb.cell (p := ⟨g, o + (i + m) * 4 + 3, none⟩) hg).trans c3⟩
    · intro j u hu
      rw [List.drop_of_length_le (show L.length ≤ i by omega)] at hu
      simp [cellsF] at hu

set_option maxHeartbeats 16000000 in
set_option maxRecDepth 100000 in
theorem refSorted_any (r : Rec) (u : Value) (w : World) (hu : FL u r.fields w) (hs : r.fields.length ≤ 10000) :
    Calls Tryz.prog 26 #[RV r u] w fun e w' => ∃ v N, e = .returned (RV { r with fields := N } v) ∧ Stab Fld.tag N r.fields ∧ FL v N w' ∧ Below w.heap.size w w' := by
  have HU := Lib.hid hu
  obtain ⟨a, cap, rfl, hcap, hmax⟩ := hu.length
  unfold maxLen at hmax
  obtain ⟨n, hn⟩ : ∃ n, r.fields.length = n := ⟨_, rfl⟩
  rw [hn] at hcap hs HU ⊢
  have HN := Lib.hid hn
  obtain ⟨Q, hQ⟩ : ∃ Q, (fun (e : Ending) (w' : World) => ∃ v N, e = .returned (RV { r with fields := N } v) ∧ Stab Fld.tag N r.fields ∧ FL v N w' ∧ Below w.heap.size w w') = Q := ⟨_, rfl⟩
  rw [hQ]
  have HQ : RowKit.Hid (∀ e w', (∃ v N, e = .returned (RV { r with fields := N } v) ∧ Stab Fld.tag N r.fields ∧ FL v N w' ∧ Below w.heap.size w w') → Q e w') := by rw [← hQ]; exact fun _ _ h => h
  have cW := Lib.hid (fun ax nx cx a' n' c' W => refWith_any r ax a' nx cx n' c' W)
  unfold RV at cW ⊢
  obtain ⟨lg, hlg⟩ : ∃ lg, S r.lang = lg := ⟨_, rfl⟩
  rw [hlg] at cW ⊢
  have HLG := Lib.hid hlg
  obtain ⟨W0, hW0⟩ : ∃ W0, (w.alloc (.cells #[.int .i64 r.id, .int .i64 r.ver, .int .i64 r.kind, .string lg, .slice a n cap] 24)).alloc (.cells #[.int .i64 0, .int .i64 0, .int .i64 0, .string ⟨#[]⟩, .slice none 0 0] 24) = W0 := ⟨_, rfl⟩
  have b0 : Below w.heap.size w W0 := by rw [← hW0]; exact ((Below.refl w.heap.size w).alloc (Nat.le_refl _) _).alloc (by simp) _
  have hF : W0.heap[w.heap.size]? = some (.cells #[.int .i64 r.id, .int .i64 r.ver, .int .i64 r.kind, .string lg, .slice a n cap] 24 (0, 0)) := by
    rw [← hW0]
    exact (Below.heap_alloc _ _ _ (by simp)).trans (heap_alloc_new w _)
  have hR : W0.heap[w.heap.size + 1]? = some (.cells #[.int .i64 0, .int .i64 0, .int .i64 0, .string ⟨#[]⟩, .slice none 0 0] 24 (0, 0)) := by
    rw [← hW0]
    have := heap_alloc_new (w.alloc (.cells #[.int .i64 r.id, .int .i64 r.ver, .int .i64 r.kind, .string lg, .slice a n cap] 24)) (.cells #[.int .i64 0, .int .i64 0, .int .i64 0, .string ⟨#[]⟩, .slice none 0 0] 24)
    simpa using this
  have hsz0 : W0.heap.size = w.heap.size + 2 := by rw [← hW0]; simp
  have HW0 := Lib.hid hW0
  have HUw := Lib.hid HU.out
  have HB0 := Lib.hid b0
  have HF := Lib.hid hF
  have HR := Lib.hid hR
  have hE := FR.empty w W0 W0.heap.size (Nat.le_refl _)
  have HE := Lib.hid hE
  have HBE := Lib.hid ((Below.refl W0.heap.size W0).alloc (Nat.le_refl _) (.cells #[] 35))
  have hlt0 : w.heap.size < W0.heap.size := by omega
  have HS0 := Lib.hid hsz0
  clear hW0 hn hu HU hQ hF hR hE b0 hlg hsz0
  go_enter Tryz.func26, Tryz.ntmps26
  go_upto_region 1 with fail
  rw [HW0.out]
  go_upto_region 3 with fail
  go_loopw [3, 4] (fun l i wr => ∃ (k : Nat) (N : List Fld), k ≤ n ∧ i = .int .i64 (k : Int) ∧ N.length = k ∧ RowKit.Hid (Stab Fld.tag N (r.fields.take k)) ∧ RowKit.Hid (FR w W0.heap.size l N wr) ∧ l ≠ .slice none 0 0 ∧ Below W0.heap.size W0 wr) (fun _ i _ => n - (intOf i).toNat)
  case atStart => exact ⟨0, [], Nat.zero_le _, rfl, rfl, by rw [List.take_zero]; exact Stab.refl (by simp [Asc]), HE, (fun h => by cases h), HBE.out⟩
  case round =>
    obtain ⟨k, N, hk, rfl, hNk, hst, hfl, hnn, hbw⟩ := hrel
    obtain ⟨⟨p0, p1, p2, p3, p4⟩, _⟩ := rec_cells ((hbw.block _ hlt0).trans HF.out)
    have HBw0 := Lib.hid (HB0.out.trans (hbw.mono HB0.out.size))
    obtain ⟨ad, cp, hu3, hkc, hcm⟩ := (hfl.out.fl HBw0.out).some_of hnn
    subst hu3
    rw [hNk] at hkc
    by_cases hkn : k < n
    · obtain ⟨g, o, cap', x, he, hg, c0, c1, c2, c3, hq⟩ := HUw.out.at k (by rw [HN.out]; exact hkn)
      have c0 := (HBw0.out.cell (p := ⟨g, o + k * 4, none⟩) hg).trans c0
      have c1 := (HBw0.out.cell (p := ⟨g, o + k * 4 + 1, none⟩) hg).trans c1
      have c2 := (HBw0.out.cell (p := ⟨g, o + k * 4 + 2, none⟩) hg).trans c2
      have c3 := (HBw0.out.cell (p := ⟨g, o + k * 4 + 3, none⟩) hg).trans c3
      have hg := Nat.lt_of_lt_of_le hg HBw0.out.size
      obtain ⟨ha, -, hcp⟩ := Value.slice.inj he
      subst ha hcp
      clear he
      obtain ⟨y, hy⟩ : ∃ y, r.fields.getD k fd0 = y := ⟨_, rfl⟩
      have HIns : RowKit.Hid (∀ j, j ≤ k → (j = 0 ∨ kc Fld.tag (N.getD (j - 1) fd0) y ≤ 0) → (∀ i, j ≤ i → i < k → 0 < kc Fld.tag (N.getD i fd0) y) → Stab Fld.tag (N.take j ++ [y] ++ N.drop j) (r.fields.take (k + 1))) := by
        intro j h1 h2 h3
        have := ins_stab hst.out j (by omega) h2 (fun i h4 h5 => h3 i h4 (by omega))
        rwa [List.take_succ_eq_append_getElem (show k < r.fields.length by rw [HN.out]; exact hkn), show r.fields[k]'(by rw [HN.out]; exact hkn) = y by rw [← hy, List.getD_eq_getElem?_getD, List.getElem?_eq_getElem (by rw [HN.out]; exact hkn)]; rfl]
      rw [hy] at c0 c1 c3 hq
      have HNk := Lib.hid hNk
      have HBw := Lib.hid hbw
      have HFl := Lib.hid hfl.out
      rw [hNk] at HFl ⊢
      clear hst hy hnn hbw hNk hfl
      have i1 : (0 : Int) ≤ (k : Int) := by omega
      have i2 : (k : Int) < (n : Int) := by omega
      obtain ⟨wo, rfl⟩ : ∃ wo : World, wo = wr := ⟨_, rfl⟩
      go_wp2
      go_loopw [5] (fun c wx => ∃ j : Nat, j ≤ k ∧ c = .int .i64 (j : Int) ∧ RowKit.Hid (∀ i, j ≤ i → i < k → 0 < kc Fld.tag (N.getD i fd0) y) ∧ Below wo.heap.size wo wx) (fun c _ => (intOf c).toNat)
      case atStart => exact ⟨k, Nat.le_refl _, rfl, (fun i h1 h2 => by omega), Below.refl _ _⟩
      case round =>
        obtain ⟨j, hj, rfl, hab, hse⟩ := hrel
        obtain ⟨bb, hbb⟩ : ∃ bb : Bool, (decide (0 < j) && decide (0 < kc Fld.tag (N.getD (j - 1) fd0) y)) = bb := ⟨_, rfl⟩
        have HSe := Lib.hid hse
        have hltr : w.heap.size < wo.heap.size := Nat.lt_of_lt_of_le hlt0 HBw.out.size
        have s4 := (hse.cell (p := ⟨w.heap.size, 4, none⟩) hltr).trans p4
        have y0 := (hse.cell (p := ⟨g, o + k * 4, none⟩) hg).trans c0
        have HAb := Lib.hid hab.out
        clear hab
        go_upto_region 6 with fail
        go_cut [33] from 17 to 33 (fun s33 wy => s33 = .bool bb ∧ Below wo.heap.size wo wy)
        case first =>
          by_cases hj0 : j = 0
          · subst hj0
            obtain rfl : bb = false := by rw [← hbb]; rfl
            have d0 : decide ((0 : Int) < ((0 : Nat) : Int)) = false := rfl
            have d1 : ((0 : Nat) : Int) = 0 := rfl
            clear hse
            go_quiet (fail)
            all_goals (go_wp2_with fail; go_meet; exact ⟨rfl, below_drewN _ _ _ HSe.out⟩)
          · obtain ⟨m, rfl⟩ : ∃ m, j = m + 1 := ⟨j - 1, by omega⟩
            obtain ⟨g2, o2, cp2, x2, he2, hg2, e0, _⟩ := ((HFl.out.fl HBw0.out).after hse).at m (by rw [HNk.out]; omega)
            obtain ⟨had, -, -⟩ := Value.slice.inj he2
            obtain rfl := Option.some.inj had
            clear he2 had
            obtain ⟨b1, b2, t1, t2, t3⟩ := gt_bits (N.getD m fd0).tag y.tag
            have hbb2 : (!(b1 || b2)) = bb := by
              rw [t3, ← hbb, decide_eq_true (show 0 < m + 1 by omega), Bool.true_and]
              rfl
            have i3 : (0 : Int) ≤ (m : Int) := by omega
            have i4 : (m : Int) < (k : Int) := by omega
            have i5 : (0 : Int) < (m : Int) + 1 := by omega
            have i6 : m < k := by omega
            have i7 : k < n := hkn
            clear hse hbb t3
            generalize S (N.getD m fd0).tag = ta at *
            generalize S y.tag = tb at *
            cases b1 <;> cases b2
            all_goals
              subst hbb2
              go_quiet (fail)
              all_goals (go_wp2_with fail; go_meet; exact ⟨rfl, below_drewN _ _ _ HSe.out⟩)
        case rest =>
          obtain ⟨rfl, hsc⟩ := hcut
          cases bb
          · have hstop : j = 0 ∨ kc Fld.tag (N.getD (j - 1) fd0) y ≤ 0 := by
              rcases Nat.eq_zero_or_pos j with h | h
              · exact .inl h
              · refine .inr ?_
                rw [decide_eq_true h, Bool.true_and] at hbb
                have := of_decide_eq_false hbb
                omega
            have HSt := Lib.hid (HIns.out j hj hstop HAb.out)
            have HBc := Lib.hid hsc
            have hE := Lib.hid (FR.empty w wc wc.heap.size (Nat.le_refl _))
            have hbE := Lib.hid ((Below.refl wc.heap.size wc).alloc (Nat.le_refl _) (.cells #[] 35))
            have HFl2 : RowKit.Hid (FR w W0.heap.size (.slice (some ad) N.length cp) N wo) := by unfold RowKit.Hid; rw [HNk.out]; exact HFl.out
            have hN1 := Lib.hid (HFl2.out.head j (by rw [HNk.out]; exact hj) (hsc.trans (hbE.out.mono hsc.size)))
            have HTail := Lib.hid (fun w1 (hb1 : Below wc.heap.size wc w1) => HFl2.out.tail j (by rw [HNk.out]; exact hj) (hsc.trans (hb1.mono hsc.size)))
            have HD : RowKit.Hid ((N.drop j).length = k - j) := by unfold RowKit.Hid; rw [List.length_drop, HNk.out]
            have hT : (N.take j).length = j := by rw [List.length_take, HNk.out]; omega
            have HT := Lib.hid hT
            have HOne := Lib.hid (fun W => FL.one w y x hq W)
            have HL0 : RowKit.Hid (([] : List Fld).length + (N.take j).length ≤ 100000) := by unfold RowKit.Hid; rw [HT.out, List.length_nil]; omega
            have j1 : (0 : Int) ≤ (j : Int) := by omega
            have j2 : (j : Int) ≤ (cp : Int) := by omega
            have j3 : (j : Int) ≤ (k : Int) := by omega
            have hgc : g < wc.heap.size := Nat.lt_of_lt_of_le hg hsc.size
            have hltc : w.heap.size < wc.heap.size := Nat.lt_of_lt_of_le hltr hsc.size
            have HZ0 := Lib.hid ((hsc.cell (p := ⟨g, o + k * 4, none⟩) hg).trans c0)
            have HZ1 := Lib.hid ((hsc.cell (p := ⟨g, o + k * 4 + 1, none⟩) hg).trans c1)
            have HZ2 := Lib.hid ((hsc.cell (p := ⟨g, o + k * 4 + 2, none⟩) hg).trans c2)
            have HZ3 := Lib.hid ((hsc.cell (p := ⟨g, o + k * 4 + 3, none⟩) hg).trans c3)
            have HP4 := Lib.hid ((hsc.cell (p := ⟨w.heap.size, 4, none⟩) hltr).trans p4)
            have hwos := hsc.size
            clear hstop hbb hsc hse HSe y0 s4 c0 c1 c2 c3 p0 p1 p2 p3 p4 hT hq
            generalize S y.tag = ft at *
            generalize S y.ind = fi at *
            generalize y.auth = fa at *
            go_upto_region 9 with (at_builtin; refine append_fr _ rfl _ _ rfl w wc.heap.size _ [] rfl hE.out (some ad) (N.take j) j cp rfl HT.out (fun h => by cases h) hN1.out HL0.out (by simp) wc.heap.size wc (Nat.le_refl _) hbE.out ?_; intro v1 w1 hfr1 hb1 hB1 hn1)
            have hnn1 : v1 ≠ .slice none 0 0 := fun h => by cases (hn1.1 h).1
            clear hn1
            have q4 := (hb1.cell (p := ⟨w.heap.size, 4, none⟩) hltc).trans HP4.out
            have z0 := (hb1.cell (p := ⟨g, o + k * 4, none⟩) hgc).trans HZ0.out
            have z1 := (hb1.cell (p := ⟨g, o + k * 4 + 1, none⟩) hgc).trans HZ1.out
            have z2 := (hb1.cell (p := ⟨g, o + k * 4 + 2, none⟩) hgc).trans HZ2.out
            have z3 := (hb1.cell (p := ⟨g, o + k * 4 + 3, none⟩) hgc).trans HZ3.out
            have ba := (Below.refl w1.heap.size w1).alloc (Nat.le_refl _) (.cells #[.string ft, .string fi, x, .int .i64 fa] 35)
            have HFRa := Lib.hid (hfr1.after ba)
            have HBa := Lib.hid (hb1.trans (ba.mono hb1.size))
            have HBs := Lib.hid (Nat.le_trans hB1 ba.size)
            have HNW := Lib.hid (HOne.out w1)
            have HL1 : RowKit.Hid (([] ++ N.take j).length + [y].length ≤ 100000) := by unfold RowKit.Hid; rw [List.nil_append, HT.out, List.length_singleton]; omega
            have HNN1 := Lib.hid hnn1
            clear hfr1 hb1 hB1 ba hnn1
            go_upto_region 10 with (at_builtin; refine append_fr _ rfl _ _ rfl w wc.heap.size _ ([] ++ N.take j) rfl HFRa.out (some ⟨w1.heap.size, 0, none⟩) [y] 1 1 rfl rfl (fun h => by cases h) HNW.out HL1.out HBs.out wc.heap.size wc (Nat.le_refl _) HBa.out ?_; intro v2 w2 hfr2 hb2 hB2 hn2)
            have HNN2 : RowKit.Hid (v2 ≠ .slice none 0 0) := fun h => HNN1.out (hn2.1 h).1
            clear hn2 q4 z0 z1 z2 z3
            have HTail2 := Lib.hid (HTail.out w2 hb2)
            have HFR2 := Lib.hid hfr2
            have HB2 := Lib.hid hb2
            have hl2 : (([] ++ N.take j) ++ [y]).length + (N.drop j).length ≤ 100000 := by rw [HD.out, List.length_append, List.nil_append, HT.out, List.length_singleton]; omega
            have HL2 := Lib.hid hl2
            clear hfr2 hb2 hl2
            go_upto_region 11 with (at_builtin; refine append_fr _ rfl _ _ rfl w wc.heap.size _ (([] ++ N.take j) ++ [y]) rfl HFR2.out _ (N.drop j) _ _ rfl (HD.out.trans ?_) ?_ (HTail2.out _ ?_) HL2.out hB2 wc.heap.size wc (Nat.le_refl _) HB2.out ?_)
            any_goals (first | rfl | (rw [HNk.out]; omega) | (intro h2; exfalso; rw [HNk.out] at h2; omega) | (intro ad' h1 h2; exfalso; rw [HNk.out] at h2; omega))
            all_goals
              intro v3 w3 hfr3 hb3 _ hn3
              have hfr3 : FR w wc.heap.size v3 (N.take j ++ [y] ++ N.drop j) w3 := by simpa using hfr3
              have HNN3 : RowKit.Hid (v3 ≠ .slice none 0 0) := fun h => HNN2.out (hn3.1 h).1
              have hfb := HBc.out.trans (hb3.mono HBc.out.size)
              have HFl3 := Lib.hid (hfr3.base (Nat.le_trans HBw.out.size HBc.out.size))
              have HFb := Lib.hid (HBw.out.trans (hfb.mono HBw.out.size))
              have HLen : RowKit.Hid ((N.take j ++ [y] ++ N.drop j).length = k + 1) := by
                unfold RowKit.Hid
                rw [List.length_append, List.length_append, HT.out, HD.out, List.length_singleton]
                omega
              generalize N.take j ++ [y] ++ N.drop j = N3 at *
              clear hfr3 hb3 hn3 hfb
              go_wp2
              go_roundw
              case rel => exact ⟨k + 1, N3, by omega, by go_num, HLen.out, HSt, HFl3, HNN3.out, HFb.out⟩
              case measure => simp [intOf]; omega
          · have hgo : 0 < j ∧ 0 < kc Fld.tag (N.getD (j - 1) fd0) y := by
              rw [Bool.and_eq_true, decide_eq_true_eq, decide_eq_true_eq] at hbb
              exact hbb
            have HAb2 : RowKit.Hid (∀ i, j - 1 ≤ i → i < k → 0 < kc Fld.tag (N.getD i fd0) y) := by
              intro i h1 h2
              rcases Nat.lt_or_ge i j with h3 | h3
              · obtain rfl : i = j - 1 := by omega
                exact hgo.2
              · exact HAb.out i h3 h2
            have hj0 : 0 < j := hgo.1
            clear hgo hbb
            go_wp2
            go_roundw
            case rel => exact ⟨j - 1, by omega, by go_num, HAb2, hsc⟩
            case measure => simp [intOf]; omega
    · obtain rfl : k = n := by omega
      have hT : r.fields.take k = r.fields := by rw [← HN.out, List.take_length]
      rw [hT] at hst
      have HSt := Lib.hid hst.out
      have HFl := Lib.hid hfl.out
      have HBw := Lib.hid hbw
      obtain ⟨l2, hl2⟩ : ∃ l2, N.length = l2 := ⟨_, rfl⟩
      have hlt1 : w.heap.size + 1 < W0.heap.size := by rw [HS0.out]; omega
      have HR2 := Lib.hid ((hbw.block _ hlt1).trans HR.out)
      have hlt2 : w.heap.size + 1 < wr.heap.size := Nat.lt_of_lt_of_le hlt1 hbw.size
      have HLT2 := Lib.hid hlt2
      rw [hl2] at HFl ⊢
      have HN2 := Lib.hid hl2
      clear hst hfl hbw hlt2 hT hnn hl2 hNk
      go_wp2_with fail
      refine (cW.out _ _ _ _ _ _ _).mono ?_
      rintro e w3 ⟨rfl, d⟩
      have hR3 := (d.block _ HLT2.out).trans HR2.out
      have hfinB := Lib.hid ((HB0.out.trans (HBw.out.mono HB0.out.size)).trans (d.mono (Nat.le_trans HB0.out.size HBw.out.size)))
      obtain ⟨⟨r0, r1, r2, r3, r4⟩, g0, g1, g2, g3, g4⟩ := rec_cells hR3
      have hfin := Lib.hid (rec_set (x0 := .int .i64 r.id) (x1 := .int .i64 r.ver) (x2 := .int .i64 r.kind) (x3 := .string lg) (x4 := .slice (some ad) l2 cp) hR3)
      have Fin := Lib.hid (rec_below (b := w.heap.size + 1) hfinB.out (Nat.le_succ _) (.int .i64 r.id) (.int .i64 r.ver) (.int .i64 r.kind) (.string lg) (.slice (some ad) l2 cp))
      have HFin := Lib.hid (rec_row (HFl.out.after d) (show w.heap.size + 1 < W0.heap.size by rw [HS0.out]; omega) (.int .i64 r.id) (.int .i64 r.ver) (.int .i64 r.kind) (.string lg) (.slice (some ad) l2 cp))
      go_wp2
      (try simp only [Exit.inBlock, Exit.then])
      refine bodyPost_ret (results_cell_row rfl _ _ (w.heap.size + 1) _ _ _ _ rfl hfin.out Tryz.underlying24 rfl (by kernel_rfl)) rfl ?_
      refine HQ.out _ _ ⟨.slice (some ad) l2 cp, N, ?_, HSt.out, ?_, Fin.out⟩
      · unfold RV
        rw [HLG.out]
      · exact HFin.out.fl Fin.out
end

section
open Go.RowKit Go.PlainAid
set_option maxHeartbeats 16000000 in
set_option maxRecDepth 100000 in
theorem pFields_any (r : Rec) (u : Value) (w : World) (hu : FL u r.fields w) (p : List UInt8) (hs : r.fields.length ≤ 100000) :
    Calls Tryz.prog 18 #[RV r u, .string (S p)] w fun e w' => ∃ v', e = .returned v' ∧ FL v' (fieldsL r.fields p) w' ∧ Below w.heap.size w w' := by
  have HU := Lib.hid hu
  obtain ⟨a, cap, rfl, hcap, hmax⟩ := hu.length
  unfold maxLen at hmax
  unfold RV
  have HSn := Lib.hid (fieldsL_snoc r.fields p)
  have cB := Lib.hid (fun t b (hb : p.isPrefixOf t = b) W => cPrefix t p b hb W)
  obtain ⟨n, hn⟩ : ∃ n, r.fields.length = n := ⟨_, rfl⟩
  rw [hn] at hcap hs HU ⊢
  have HN := Lib.hid hn
  obtain ⟨W0, hW0⟩ : ∃ W0, w.alloc (.cells #[.int .i64 r.id, .int .i64 r.ver, .int .i64 r.kind, .string (S r.lang), .slice a n cap] 24) = W0 := ⟨_, rfl⟩
  have b0 : Below w.heap.size w W0 := by rw [← hW0]; exact (Below.refl w.heap.size w).alloc (Nat.le_refl _) _
  have hlt : w.heap.size < W0.heap.size := by rw [← hW0]; simp
  have k4 : W0.cell? ⟨w.heap.size, 4, none⟩ = some (.slice a n cap) := by rw [← hW0]; simp
  have HW0 := Lib.hid hW0
  have HB0 := Lib.hid b0
  have HUw := Lib.hid HU.out
  obtain ⟨i0, hi, hz0, hz1, hz2⟩ := info_fld
  have HZ0 := Lib.hid hz0
  have HZ1 := Lib.hid hz1
  have HZ2 := Lib.hid hz2
  have HI := Lib.hid hi
  have hf0 : fieldsL (r.fields.take 0) p = [] := by rw [List.take_zero]; rfl
  clear hn hW0 hu HU hi hz0 hz1 hz2 b0
  generalize S p = ps at *
  generalize S r.lang = lg at *
  go_enter Tryz.func18, Tryz.ntmps18
  go_upto_region 1 with fail
  rw [HW0.out]
  go_wp2
  go_loopw [5, 11] (fun v i wr => ∃ k : Nat, k ≤ n ∧ i = .int .i64 (k : Int) ∧ FR w W0.heap.size v (fieldsL (r.fields.take k) p) wr ∧ Below W0.heap.size W0 wr) (fun _ i _ => n - (intOf i).toNat)
  case atStart => exact ⟨0, Nat.zero_le _, rfl, by rw [hf0]; exact FR.nil _ _ _, Below.refl _ _⟩
  case round =>
    obtain ⟨k, hk, rfl, hown, hbw⟩ := hrel
    have HBw0 := Lib.hid (HB0.out.trans (hbw.mono HB0.out.size))
    by_cases hkn : k < n
    · obtain ⟨g, o, cap', x, he, hg, c0, c1, c2, c3, hq⟩ := HUw.out.at k (by rw [HN.out]; exact hkn)
      have c0 := (HBw0.out.cell (p := ⟨g, o + k * 4, none⟩) hg).trans c0
      have c1 := (HBw0.out.cell (p := ⟨g, o + k * 4 + 1, none⟩) hg).trans c1
      have c2 := (HBw0.out.cell (p := ⟨g, o + k * 4 + 2, none⟩) hg).trans c2
      have c3 := (HBw0.out.cell (p := ⟨g, o + k * 4 + 3, none⟩) hg).trans c3
      obtain ⟨ha, -, hcp⟩ := Value.slice.inj he
      subst ha hcp
      clear he
      obtain ⟨ax, nx, cx, hx⟩ : ∃ ax nx cx, x = .slice ax nx cx := by obtain ⟨ax, cx, rfl, _⟩ := hq; exact ⟨_, _, _, rfl⟩
      subst hx
      have i1 : (0 : Int) ≤ (k : Int) := by omega
      have i2 : (k : Int) < (n : Int) := by omega
      have hsn := HSn.out k (by rw [HN.out]; exact hkn)
      have hll : (fieldsL (r.fields.take k) p).length ≤ k := Nat.le_trans (fieldsL_length _ _) (by rw [List.length_take]; omega)
      have hsz := hbw.size
      obtain ⟨y, hy⟩ : ∃ y, r.fields.getD k fd0 = y := ⟨_, rfl⟩
      rw [hy] at c0 c1 c3 hq hsn
      have HOne := Lib.hid (fun W => FL.one w y _ hq W)
      obtain ⟨wa, hwa⟩ : ∃ wa, wr.alloc (.cells #[.string (S y.tag), .string (S y.ind), .slice ax nx cx, .int .i64 y.auth] 35) = wa := ⟨_, rfl⟩
      have ba : Below wr.heap.size wr wa := by rw [← hwa]; exact (Below.refl _ _).alloc (Nat.le_refl _) _
      have y0 : wa.cell? ⟨wr.heap.size, 0, none⟩ = some (.string (S y.tag)) := by rw [← hwa]; simp
      have y1 : wa.cell? ⟨wr.heap.size, 1, none⟩ = some (.string (S y.ind)) := by rw [← hwa]; simp
      have y2 : wa.cell? ⟨wr.heap.size, 2, none⟩ = some (.slice ax nx cx) := by rw [← hwa]; simp
      have y3 : wa.cell? ⟨wr.heap.size, 3, none⟩ = some (.int .i64 y.auth) := by rw [← hwa]; simp
      have HWA := Lib.hid hwa
      have HBa := Lib.hid (hbw.trans (ba.mono hbw.size))
      generalize fieldsL (r.fields.take k) p = M at hown hsn hll
      have HFRa := Lib.hid (hown.after ba)
      cases hin : p.isPrefixOf y.tag
      · have cC := Lib.hid (cB.out y.tag false hin wa)
        rw [hin, if_neg (fun h => by cases h), List.append_nil] at hsn
        have HS := Lib.hid hsn
        clear hsn hin hbw hown hq ba hwa hy
        generalize S y.tag = t0 at *
        generalize S y.ind = t1 at *
        generalize y.auth = t3 at *
        go_upto_region 5 with fail
        rw [HWA.out]
        go_wp2_with fail
        refine (cC.out).mono ?_
        rintro e w5 ⟨rfl, rfl⟩
        go_wp2
        go_roundw
        case rel => exact ⟨k + 1, by omega, by go_num, by rw [HS.out]; exact HFRa.out, HBa.out⟩
        case measure => simp [intOf]; omega
      · have cC := Lib.hid (cB.out y.tag true hin wa)
        rw [hin, if_pos rfl] at hsn
        have HS := Lib.hid hsn
        have bc := (Below.refl wa.heap.size wa).alloc (Nat.le_refl _) (.cells #[.string (S y.tag), .string (S y.ind), .slice ax nx cx, .int .i64 y.auth] 35)
        have HFRc := Lib.hid (HFRa.out.after bc)
        have HBc := Lib.hid (HBa.out.trans (bc.mono HBa.out.size))
        have HNW := Lib.hid (HOne.out wa)
        have HL1 : RowKit.Hid (M.length + [y].length ≤ 100000) := by unfold RowKit.Hid; rw [List.length_singleton]; omega
        clear hsn hin hbw hown hq ba hwa hy bc
        generalize S y.tag = t0 at *
        generalize S y.ind = t1 at *
        generalize y.auth = t3 at *
        go_upto_region 5 with fail
        rw [HWA.out]
        go_wp2_with fail
        refine (cC.out).mono ?_
        rintro e w5 ⟨rfl, hw5⟩
        rw [hw5]
        clear hw5
        go_wp2_with (at_builtin; refine append_fr _ rfl _ _ rfl w W0.heap.size _ M rfl HFRc.out (some ⟨wa.heap.size, 0, none⟩) [y] 1 1 rfl rfl (fun h => by cases h) HNW.out HL1.out HBc.out.size W0.heap.size W0 (Nat.le_refl _) HBc.out ?_; intro v2 w2 hfr2 hb2 hB2 hn2)
        have HFR2 := Lib.hid hfr2
        have HB2 := Lib.hid hb2
        clear hfr2 hb2 hn2
        go_roundw
        case rel => exact ⟨k + 1, by omega, by go_num, by rw [HS.out]; exact HFR2.out, HB2.out⟩
        case measure => simp [intOf]; omega
    · obtain rfl : k = n := by omega
      have hT : r.fields.take k = r.fields := by rw [← HN.out, List.take_length]
      rw [hT] at hown
      have HF := Lib.hid (hown.fl HBw0.out)
      clear hown hbw hT
      go_wp2
      go_ret
      exact ⟨_, rfl, HF.out, HBw0.out⟩

/-- A slice of fields that isn't nil, as it is appended whole. -/
theorem FL.whole {ad : Addr} {cap : Nat} {L : List Fld} {W0 w : World} (h : FL (.slice (some ad) L.length cap) L W0) (hb : Below W0.heap.size W0 w) : NW W0 (some ad) L w := by
  have := h.head L.length (Nat.le_refl _) hb
  rwa [List.take_length] at this

set_option maxHeartbeats 8000000 in
theorem fclone_any (V : World) (L : List Fld) (u : Value) (w : World) (hV : Below V.heap.size V w) (hu : FL u L V) (hs : L.length ≤ 100000) :
    Calls Tryz.prog 46 #[u] w fun e w' => ∃ v', e = .returned v' ∧ FR V w.heap.size v' L w' ∧ Below w.heap.size w w' := by
  have q22 : ∀ (w : World) (a : Option Addr) (n c n' c' : Nat), (binOp .eql 22 (.slice a n c) (.slice none n' c')).run Tryz.prog w = .ok (.bool a.isNone) w := fun w a n c n' c' => Lib.run_eql_slice_nil w _ _ a n c n' c' Tryz.underlying22
  obtain ⟨a, cap, rfl, hcap, hmax, hn, _⟩ := id hu
  cases a with
  | none =>
    obtain rfl := hn rfl
    have h0 : L = [] := List.eq_nil_of_length_eq_zero (by omega)
    subst h0
    clear hu
    go_enter Tryz.func46, Tryz.ntmps46
    go_wp2
    go_ret
    exact ⟨_, rfl, FR.nil _ _ _, Below.refl _ _⟩
  | some ad =>
    have HU := Lib.hid hu
    have hE := Lib.hid (FR.empty V w w.heap.size (Nat.le_refl _))
    have hbE := Lib.hid ((Below.refl w.heap.size w).alloc (Nat.le_refl _) (.cells #[] 35))
    have HNW := Lib.hid (hu.whole (hV.trans (hbE.out.mono hV.size)))
    have HL1 : RowKit.Hid (([] : List Fld).length + L.length ≤ 100000) := by unfold RowKit.Hid; rw [List.length_nil]; omega
    unfold maxLen at hmax
    obtain ⟨n, hnn⟩ : ∃ n, L.length = n := ⟨_, rfl⟩
    have HN := Lib.hid hnn
    rw [hnn] at hcap hs ⊢
    clear hu hnn hn
    go_enter Tryz.func46, Tryz.ntmps46
    go_wp2_with (at_builtin; refine append_fr _ rfl _ _ rfl V w.heap.size _ [] rfl hE.out (some ad) L n cap rfl HN.out (fun h => by cases h) HNW.out HL1.out (by simp) w.heap.size w (Nat.le_refl _) hbE.out ?_; intro v2 w2 hfr2 hb2 hB2 hn2)
    have HFR2 := Lib.hid hfr2
    have HB2 := Lib.hid hb2
    obtain ⟨us, _, hown, _⟩ := hfr2
    obtain ⟨ao, cp, rfl⟩ := own_form hown
    clear hown hb2 hn2
    go_wp2
    go_ret
    exact ⟨_, rfl, HFR2.out, HB2.out⟩
end

section
/-- The first number that is not 0. -/
def firstI {α : Type} (p : α → Int) : List α → Int
  | [] => 0
  | a :: t => if p a ≠ 0 then p a else firstI p t
theorem firstI_hit {α : Type} (d : α) (p : α → Int) : ∀ (L : List α) (k : Nat), k < L.length → (∀ j, j < k → p (L.getD j d) = 0) → p (L.getD k d) ≠ 0 → firstI p L = p (L.getD k d)
  | [], _, hk, _, _ => by cases hk
  | s :: t, 0, _, _, he => by
    have he : p s ≠ 0 := he
    rw [firstI, if_pos he]
    rfl
  | s :: t, k + 1, hk, h, he => by
    have h0 : p s = 0 := h 0 (Nat.succ_pos k)
    rw [firstI, if_neg (fun h => h h0)]
    exact firstI_hit d p t k (by simpa using hk) (fun j hj => h (j + 1) (by omega)) he
theorem firstI_miss {α : Type} (d : α) (p : α → Int) : ∀ (L : List α), (∀ j, j < L.length → p (L.getD j d) = 0) → firstI p L = 0
  | [], _ => rfl
  | s :: t, h => by
    have h0 : p s = 0 := h 0 (by simp)
    rw [firstI, if_neg (fun h => h h0)]
    exact firstI_miss d p t (fun j hj => h (j + 1) (by simpa using hj))
/-- The first number that is not 0 is among them, or all are 0. -/
theorem firstI_cases {α : Type} (d : α) (p : α → Int) (L : List α) : (∀ j, j < L.length → p (L.getD j d) = 0) ∨ ∃ k, k < L.length ∧ (∀ j, j < k → p (L.getD j d) = 0) ∧ p (L.getD k d) ≠ 0 := by
  rcases first_bad (fun i => decide (p (L.getD i d) = 0)) L.length with h | ⟨j, hj, h1, h2⟩
  · exact .inl fun j hj => by simpa using h j hj
  · exact .inr ⟨j, hj, fun i hi => by simpa using h1 i hi, by simpa using h2⟩

/-- The first field whose tag begins so, or a field without subfields. -/
def firstF (L : List Fld) (t : List UInt8) : Fld := (fieldsL L t).getD 0 fd0
theorem firstF_nil (L : List Fld) (t : List UInt8) (h : (fieldsL L t).length = 0) : firstF L t = fd0 := by
  unfold firstF
  rw [List.eq_nil_of_length_eq_zero h]
  rfl
theorem prefix_tag (t p : List UInt8) (h : t.length = p.length) : p.isPrefixOf t = decide (t = p) := by
  rw [← prefix_take, ← h, List.take_length]
theorem firstF_hit (L : List Fld) (t : List UInt8) (hl : ∀ f ∈ L, f.tag.length = t.length) (k : Nat) (hk : k < L.length) (hj : ∀ j, j < k → (L.getD j fd0).tag ≠ t) (he : (L.getD k fd0).tag = t) : firstF L t = L.getD k fd0 := by
  unfold firstF fieldsL
  have e : ∀ (M : List Fld) (k : Nat), (∀ f ∈ M, f.tag.length = t.length) → k < M.length → (∀ j, j < k → (M.getD j fd0).tag ≠ t) → (M.getD k fd0).tag = t → (M.filter fun f => t.isPrefixOf f.tag).getD 0 fd0 = M.getD k fd0 := by
    intro M
    induction M with
    | nil => intro k _ hk; cases hk
    | cons f s ih =>
      intro k hl hk hj he
      have hp := prefix_tag f.tag t (hl f (by simp))
      cases k with
      | zero =>
        have he : f.tag = t := he
        rw [List.filter_cons, if_pos (by rw [hp]; exact decide_eq_true he)]
        rfl
      | succ k =>
        have h0 : f.tag ≠ t := hj 0 (Nat.succ_pos k)
        rw [List.filter_cons, if_neg (by rw [hp, decide_eq_true_iff]; exact h0)]
        exact ih k (fun f hf => hl f (List.mem_cons_of_mem _ hf)) (by simpa using hk) (fun j hj' => hj (j + 1) (by omega)) he
  exact e L k hl hk hj he
theorem firstF_miss (L : List Fld) (t : List UInt8) (hl : ∀ f ∈ L, f.tag.length = t.length) (hj : ∀ j, j < L.length → (L.getD j fd0).tag ≠ t) : firstF L t = fd0 := by
  unfold firstF fieldsL
  have e : L.filter (fun f => t.isPrefixOf f.tag) = [] := by
    rw [List.filter_eq_nil_iff]
    intro f hf
    rw [prefix_tag f.tag t (hl f hf), decide_eq_true_iff]
    obtain ⟨j, h1, rfl⟩ := List.getElem_of_mem hf
    have := hj j h1
    rwa [List.getD_eq_getElem?_getD, List.getElem?_eq_getElem h1] at this
  rw [e]
  rfl
theorem firstF_cases (L : List Fld) (t : List UInt8) : (∀ j, j < L.length → (L.getD j fd0).tag ≠ t) ∨ ∃ k, k < L.length ∧ (∀ j, j < k → (L.getD j fd0).tag ≠ t) ∧ (L.getD k fd0).tag = t := by
  rcases first_bad (fun i => !decide ((L.getD i fd0).tag = t)) L.length with h | ⟨j, hj, h1, h2⟩
  · exact .inl fun j hj => by simpa using h j hj
  · exact .inr ⟨j, hj, fun i hi => by simpa using h1 i hi, by simpa using h2⟩
theorem firstF_mem (L : List Fld) (t : List UInt8) : firstF L t = fd0 ∨ firstF L t ∈ L := by
  unfold firstF
  by_cases h : (fieldsL L t).length = 0
  · rw [List.eq_nil_of_length_eq_zero h]; exact .inl rfl
  · refine .inr ?_
    have h0 : 0 < (fieldsL L t).length := by omega
    rw [List.getD_eq_getElem?_getD, List.getElem?_eq_getElem h0]
    exact (List.mem_filter.1 (List.getElem_mem h0)).1

theorem allL_small (subs : List Sub) (codes : List UInt8) (h : ∀ i, (subs.getD i sub0).2.length ≤ 1000) (i : Nat) : ((allL subs codes).getD i []).length ≤ 1000000 := by
  by_cases hi : i < (allL subs codes).length
  · rw [List.getD_eq_getElem?_getD, List.getElem?_eq_getElem hi]
    have hm : (allL subs codes)[i] ∈ allL subs codes := List.getElem_mem hi
    unfold allL at hm
    obtain ⟨s, hs, e⟩ := List.mem_map.1 hm
    obtain ⟨j, hj, rfl⟩ := List.getElem_of_mem (List.mem_filter.1 hs).1
    have := h j
    rw [List.getD_eq_getElem?_getD, List.getElem?_eq_getElem hj] at this
    show ((allL subs codes)[i]).length ≤ _
    unfold allL
    rw [← e]
    exact Nat.le_trans this (by decide)
  · rw [List.getD_eq_getElem?_getD, List.getElem?_eq_none (by omega)]
    simp
/-! The title, before its blanks are taken. -/
def titleL (L : List Fld) : List UInt8 := plainL (firstF L [50, 52, 53]).subs [97, 98]

/-! The author. -/
def authorO (L : List Fld) : List (List UInt8) → List UInt8
  | [] => []
  | t :: ts => if (getL (firstF L t).subs 97).2 = true then (getL (firstF L t).subs 97).1 else authorO L ts
def atags : List (List UInt8) := [[49, 48, 48], [49, 49, 48], [55, 48, 48]]
theorem authorO_drop (L : List Fld) (k : Nat) (h : k < atags.length) : authorO L (atags.drop k) = if (getL (firstF L (atags.getD k [])).subs 97).2 = true then (getL (firstF L (atags.getD k [])).subs 97).1 else authorO L (atags.drop (k + 1)) := by
  rw [List.drop_eq_getElem_cons h]
  rw [List.getD_eq_getElem?_getD, List.getElem?_eq_getElem h]
  rfl

/-! The year. -/
def yearOK (n d : Nat) : Int := if d = 4 ∧ 1000 ≤ n ∧ n ≤ 2199 then (n : Int) else 0
def digN (n d : Nat) (x : UInt8) : Nat := if d + 1 ≤ 4 then n * 10 + (x.toNat - 48) else n
def yearB : List UInt8 → Nat → Nat → Int
  | [], n, d => yearOK n d
  | x :: t, n, d => if digB x = true then yearB t (digN n d x) (d + 1) else if yearOK n d ≠ 0 then yearOK n d else yearB t 0 0
def ytagB (t : List UInt8) : Bool := decide (t = [50, 54, 48]) || decide (t = [50, 54, 52])
def yearsV (f : Fld) : Int := firstI (fun v => yearB v 0 0) (allL f.subs [99])
def yearF (f : Fld) : Int := if ytagB f.tag = true then yearsV f else 0
def yearR (L : List Fld) : Int := firstI yearF L
theorem yearOK_range (n d : Nat) : 0 ≤ yearOK n d ∧ yearOK n d ≤ 2199 := by
  unfold yearOK
  split <;> omega
theorem yearB_range : ∀ (l : List UInt8) (n d : Nat), 0 ≤ yearB l n d ∧ yearB l n d ≤ 2199
  | [], n, d => yearOK_range n d
  | x :: t, n, d => by
    unfold yearB
    have := yearOK_range n d
    split
    · exact yearB_range t _ _
    · split
      · exact this
      · exact yearB_range t 0 0
theorem firstI_range {α : Type} (p : α → Int) (h : ∀ a, 0 ≤ p a ∧ p a ≤ 2199) : ∀ L : List α, 0 ≤ firstI p L ∧ firstI p L ≤ 2199
  | [] => by simp [firstI]
  | a :: t => by
    unfold firstI
    have := h a
    have := firstI_range p h t
    split <;> assumption
theorem yearsV_range (f : Fld) : 0 ≤ yearsV f ∧ yearsV f ≤ 2199 := firstI_range _ (fun v => yearB_range v 0 0) _

/-! The subjects. -/
def subjF (f : Fld) : List (List UInt8) :=
  if (allL f.subs [97, 120, 121, 122]).length = 0 then [] else [joinK [45, 45] (allL f.subs [97, 120, 121, 122]) (allL f.subs [97, 120, 121, 122]).length]
def subjO (M : List Fld) : List (List UInt8) := M.flatMap subjF
theorem subjO_snoc (M : List Fld) (k : Nat) (h : k < M.length) : subjO (M.take (k + 1)) = subjO (M.take k) ++ subjF (M.getD k fd0) := by
  rw [List.take_succ_eq_append_getElem h, List.getD_eq_getElem?_getD, List.getElem?_eq_getElem h]
  unfold subjO
  rw [List.flatMap_append, List.flatMap_cons, List.flatMap_nil, List.append_nil]
  rfl
theorem subjO_len : ∀ (M : List Fld), (subjO M).length ≤ M.length
  | [] => by simp [subjO]
  | f :: t => by
    have := subjO_len t
    have e : subjO (f :: t) = subjF f ++ subjO t := by simp [subjO]
    rw [e, List.length_append, List.length_cons]
    unfold subjF
    split <;> simp <;> omega
def subjR (L : List Fld) : List (List UInt8) := subjO (fieldsL L [54])
end

end Go.Proofs.YtcnjjdbpcobolaaGreatDoor

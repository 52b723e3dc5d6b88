/- libraryref09: Small. -/
import Derived.Test.YtjfdolmcecgdgaaDoorRG09
namespace Go.Proofs.YtjfdolmcecgdgaaDoor
open Go.RowKit Go.PlainAid

def okT (t : Rul) : Prop := t.tag.length ≤ 100 ∧ t.codes.length ≤ 100 ∧ t.once.length ≤ 100 ∧ t.needs.length ≤ 100
def okF (f : Fld) : Prop := f.subs.length ≤ 60 ∧ f.tag.length ≤ 100
/-- Rules and fields of moderate size. -/
structure Bnd (l : List Rul) (fs : List Fld) : Prop where
  ln : l.length ≤ 60
  fn : fs.length ≤ 64
  lt : ∀ i, i < l.length → okT (l.getD i rul0)
  ft : ∀ i, i < fs.length → okF (fs.getD i fd0)

set_option maxHeartbeats 16000000 in
set_option maxRecDepth 100000 in
theorem refSmall9_iff (l : List Rul) (v : Value) (r : Rec) (u : Value) (w : World) (hv : TL v l w) (hu : FL u r.fields w) :
    Calls Tryd.prog 17 #[v, RV r u] w fun e w' => ∃ b, e = .returned (.bool b) ∧ (b = true ↔ Bnd l r.fields) ∧ Below w.heap.size w w' := by
  have HU := Lib.hid hv
  have HV := Lib.hid hu
  obtain ⟨a, cap, rfl, hcap, hmax⟩ := hv.length
  obtain ⟨a', cap2, rfl, hcap2, hmax2⟩ := hu.length
  unfold maxLen at hmax hmax2
  obtain ⟨n, hn⟩ : ∃ n, l.length = n := ⟨_, rfl⟩
  obtain ⟨m, hm⟩ : ∃ m, r.fields.length = m := ⟨_, rfl⟩
  have HN := Lib.hid hn
  have HM := Lib.hid hm
  have HFin : RowKit.Hid (n ≤ 60 → m ≤ 64 → (∀ i, i < n → okT (l.getD i rul0)) → (∀ i, i < m → okF (r.fields.getD i fd0)) → Bnd l r.fields) := fun h1 h2 h3 h4 => ⟨by omega, by omega, by rw [hn]; exact h3, by rw [hm]; exact h4⟩
  have HMk : RowKit.Hid (∀ t : Rul, (S t.tag).size ≤ 100 → (S t.codes).size ≤ 100 → (S t.once).size ≤ 100 → (S t.needs).size ≤ 100 → okT t) := fun t h0 h1 h2 h3 => by
    rw [S_size] at h0 h1 h2 h3
    exact ⟨h0, h1, h2, h3⟩
  have HMf : RowKit.Hid (∀ f : Fld, f.subs.length ≤ 60 → (S f.tag).size ≤ 100 → okF f) := fun f h0 h1 => by
    rw [S_size] at h1
    exact ⟨h0, h1⟩
  have HNo1 : RowKit.Hid (Bnd l r.fields → n ≤ 60) := fun h => by have := h.ln; omega
  have HNo2 : RowKit.Hid (Bnd l r.fields → m ≤ 64) := fun h => by have := h.fn; omega
  have HNoT : RowKit.Hid (∀ k, k < n → Bnd l r.fields → (S (l.getD k rul0).tag).size ≤ 100 ∧ (S (l.getD k rul0).codes).size ≤ 100 ∧ (S (l.getD k rul0).once).size ≤ 100 ∧ (S (l.getD k rul0).needs).size ≤ 100) := fun k hk h => by
    have := h.lt k (by omega)
    unfold okT at this
    rw [S_size, S_size, S_size, S_size]
    exact this
  have HNoF : RowKit.Hid (∀ k, k < m → Bnd l r.fields → (r.fields.getD k fd0).subs.length ≤ 60 ∧ (S (r.fields.getD k fd0).tag).size ≤ 100) := fun k hk h => by
    have := h.ft k (by omega)
    unfold okF at this
    rw [S_size]
    exact this
  unfold RV
  rw [hn] at hcap HU ⊢
  rw [hm] at hcap2 HV ⊢
  obtain ⟨W0, hW0⟩ : ∃ W0, w.alloc (.cells #[.int .i64 r.id, .int .i64 r.ver, .int .i64 r.kind, .string (S r.lang), .slice a' m cap2] 36) = W0 := ⟨_, rfl⟩
  have b0 : Below w.heap.size w W0 := by rw [← hW0]; exact (Below.refl w.heap.size w).alloc (Nat.le_refl _) _
  have k4 : W0.cell? ⟨w.heap.size, 4, none⟩ = some (.slice a' m cap2) := by rw [← hW0]; simp
  have HW0 := Lib.hid hW0
  have HU0 := Lib.hid (HU.out.after b0)
  have HV0 := Lib.hid (HV.out.after b0)
  have HB0 := Lib.hid b0
  clear hn hm hv hu hW0 b0
  generalize r.id = vi at *
  generalize r.ver = vv at *
  generalize r.kind = vk at *
  generalize S r.lang = vl at *
  by_cases h60 : 60 < n
  · have d0 : decide ((60 : Int) < (n : Int)) = true := decide_eq_true (by omega)
    have hgt : ¬ n ≤ 60 := by omega
    clear h60
    go_enter Tryd.func17, Tryd.ntmps17
    go_wp2
    go_ret
    rw [HW0.out]
    exact ⟨false, rfl, ⟨(fun h => by cases h), fun hB => absurd (HNo1.out hB) hgt⟩, HB0.out⟩
  have d0 : decide ((60 : Int) < (n : Int)) = false := decide_eq_false (by omega)
  by_cases h64 : 64 < m
  · have d1 : decide ((64 : Int) < (m : Int)) = true := decide_eq_true (by omega)
    have hgt : ¬ m ≤ 64 := by omega
    clear h60 h64
    go_enter Tryd.func17, Tryd.ntmps17
    go_wp2
    go_ret
    rw [HW0.out]
    exact ⟨false, rfl, ⟨(fun h => by cases h), fun hB => absurd (HNo2.out hB) hgt⟩, HB0.out⟩
  have d1 : decide ((64 : Int) < (m : Int)) = false := decide_eq_false (by omega)
  have hn60 : n ≤ 60 := by omega
  have hm64 : m ≤ 64 := by omega
  clear h60 h64
  go_enter Tryd.func17, Tryd.ntmps17
  go_wp2
  rw [HW0.out]
  go_loopw [5] (fun i wr => ∃ k : Nat, k ≤ n ∧ i = .int .i64 (k : Int) ∧ RowKit.Hid (∀ j, j < k → okT (l.getD j rul0)) ∧ wr = W0) (fun i _ => n - (intOf i).toNat)
  case atStart => exact ⟨0, Nat.zero_le _, rfl, (fun j hj => by omega), rfl⟩
  case round =>
    obtain ⟨k, hk, rfl, HJ, rfl⟩ := hrel
    by_cases hkn : k < n
    · obtain ⟨g', o, cap', he, hg, hR⟩ := (HU0.out).at k (by rw [HN.out]; exact hkn)
      obtain ⟨ha, -, hcp⟩ := Value.slice.inj he
      subst ha hcp
      clear he
      obtain ⟨c0, c1, c2, c3, c4, c5, c6⟩ := hR
      clear c1 c2 c6
      have i1 : (0 : Int) ≤ (k : Int) := by omega
      have i2 : (k : Int) < (n : Int) := by omega
      have hmk := HMk.out (l.getD k rul0)
      have hno := HNoT.out k hkn
      have HJ2 : RowKit.Hid (okT (l.getD k rul0) → ∀ j, j < k + 1 → okT (l.getD j rul0)) := by
        intro h0 j hj
        rcases Nat.lt_or_ge j k with h | h
        · exact HJ.out j h
        · rw [show j = k by omega]; exact h0
      generalize S (l.getD k rul0).tag = t0 at *
      generalize S (l.getD k rul0).codes = t3 at *
      generalize S (l.getD k rul0).once = t4 at *
      generalize S (l.getD k rul0).needs = t5 at *
      by_cases e0 : 100 < t0.size
      · have p0 : decide ((100 : Int) < (t0.size : Int)) = true := decide_eq_true (by omega)
        have hgt : ¬ t0.size ≤ 100 := by omega
        clear e0 hmk HJ HJ2
        go_wp2
        go_ret
        exact ⟨false, rfl, ⟨(fun h => by cases h), fun hB => absurd ((hno hB).1) hgt⟩, HB0.out⟩
      have p0 : decide ((100 : Int) < (t0.size : Int)) = false := decide_eq_false (by omega)
      by_cases e3 : 100 < t3.size
      · have p3 : decide ((100 : Int) < (t3.size : Int)) = true := decide_eq_true (by omega)
        have hgt : ¬ t3.size ≤ 100 := by omega
        clear e0 e3 hmk HJ HJ2
        go_wp2
        go_ret
        exact ⟨false, rfl, ⟨(fun h => by cases h), fun hB => absurd ((hno hB).2.1) hgt⟩, HB0.out⟩
      have p3 : decide ((100 : Int) < (t3.size : Int)) = false := decide_eq_false (by omega)
      by_cases e4 : 100 < t4.size
      · have p4 : decide ((100 : Int) < (t4.size : Int)) = true := decide_eq_true (by omega)
        have hgt : ¬ t4.size ≤ 100 := by omega
        clear e0 e3 e4 hmk HJ HJ2
        go_wp2
        go_ret
        exact ⟨false, rfl, ⟨(fun h => by cases h), fun hB => absurd ((hno hB).2.2.1) hgt⟩, HB0.out⟩
      have p4 : decide ((100 : Int) < (t4.size : Int)) = false := decide_eq_false (by omega)
      by_cases e5 : 100 < t5.size
      · have p5 : decide ((100 : Int) < (t5.size : Int)) = true := decide_eq_true (by omega)
        have hgt : ¬ t5.size ≤ 100 := by omega
        clear e0 e3 e4 e5 hmk HJ HJ2
        go_wp2
        go_ret
        exact ⟨false, rfl, ⟨(fun h => by cases h), fun hB => absurd ((hno hB).2.2.2) hgt⟩, HB0.out⟩
      have p5 : decide ((100 : Int) < (t5.size : Int)) = false := decide_eq_false (by omega)
      have HJ3 := Lib.hid (HJ2.out (hmk (by omega) (by omega) (by omega) (by omega)))
      clear e0 e3 e4 e5 hmk HJ HJ2
      go_wp2
      go_roundw
      case rel => exact ⟨k + 1, by omega, by go_num, HJ3, trivial⟩
      case measure => simp [intOf]; omega
    · obtain rfl : k = n := by omega
      go_wp2
      go_loopw [6] (fun i wr2 => ∃ q : Nat, q ≤ m ∧ i = .int .i64 (q : Int) ∧ RowKit.Hid (∀ j, j < q → okF (r.fields.getD j fd0)) ∧ wr2 = wr) (fun i _ => m - (intOf i).toNat)
      case atStart => exact ⟨0, Nat.zero_le _, rfl, (fun j hj => by omega), rfl⟩
      case round =>
        obtain ⟨q, hq, rfl, HJq, rfl⟩ := hrel
        by_cases hqm : q < m
        · obtain ⟨g', o, cap', x, he, hg, c0, c1, c2, c3, hql⟩ := (HV0.out).at q (by rw [HM.out]; exact hqm)
          obtain ⟨ha, -, hcp⟩ := Value.slice.inj he
          subst ha hcp
          clear he
          obtain ⟨ax, cx, hx, _⟩ := hql.length
          subst hx
          clear c1 c3 hql
          have i1 : (0 : Int) ≤ (q : Int) := by omega
          have i2 : (q : Int) < (m : Int) := by omega
          have hmk := HMf.out (r.fields.getD q fd0)
          have hno := HNoF.out q hqm
          have HJ2 : RowKit.Hid (okF (r.fields.getD q fd0) → ∀ j, j < q + 1 → okF (r.fields.getD j fd0)) := by
            intro h0 j hj
            rcases Nat.lt_or_ge j q with h | h
            · exact HJq.out j h
            · rw [show j = q by omega]; exact h0
          generalize S (r.fields.getD q fd0).tag = t0 at *
          generalize (r.fields.getD q fd0).subs.length = sl at *
          by_cases e0 : 60 < sl
          · have p0 : decide ((60 : Int) < (sl : Int)) = true := decide_eq_true (by omega)
            have hgt : ¬ sl ≤ 60 := by omega
            clear e0 hmk HJ HJq HJ2
            go_wp2
            go_ret
            exact ⟨false, rfl, ⟨(fun h => by cases h), fun hB => absurd ((hno hB).1) hgt⟩, HB0.out⟩
          have p0 : decide ((60 : Int) < (sl : Int)) = false := decide_eq_false (by omega)
          by_cases e3 : 100 < t0.size
          · have p3 : decide ((100 : Int) < (t0.size : Int)) = true := decide_eq_true (by omega)
            have hgt : ¬ t0.size ≤ 100 := by omega
            clear e0 e3 hmk HJ HJq HJ2
            go_wp2
            go_ret
            exact ⟨false, rfl, ⟨(fun h => by cases h), fun hB => absurd ((hno hB).2) hgt⟩, HB0.out⟩
          have p3 : decide ((100 : Int) < (t0.size : Int)) = false := decide_eq_false (by omega)
          have HJ3 := Lib.hid (HJ2.out (hmk (by omega) (by omega)))
          clear e0 e3 hmk HJq HJ2
          go_wp2
          go_roundw
          case rel => exact ⟨q + 1, by omega, by go_num, HJ3, trivial⟩
          case measure => simp [intOf]; omega
        · obtain rfl : q = m := by omega
          have HR := Lib.hid (HFin.out hn60 hm64 HJ.out HJq.out)
          clear HJ HJq
          go_wp2
          go_ret
          exact ⟨true, rfl, ⟨fun _ => HR.out, fun _ => rfl⟩, HB0.out⟩
theorem refSmall9_any (l : List Rul) (v : Value) (r : Rec) (u : Value) (w : World) (hv : TL v l w) (hu : FL u r.fields w) :
    Calls Tryd.prog 17 #[v, RV r u] w fun e w' => ∃ b, e = .returned (.bool b) ∧ (b = true → Bnd l r.fields) ∧ Below w.heap.size w w' := by
  refine (refSmall9_iff l v r u w hv hu).mono ?_
  rintro e w' ⟨b, h1, h2, h3⟩
  exact ⟨b, h1, h2.1, h3⟩
end Go.Proofs.YtjfdolmcecgdgaaDoor

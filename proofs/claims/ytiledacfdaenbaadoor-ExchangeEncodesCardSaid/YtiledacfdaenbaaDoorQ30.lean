/- Merged: RI10. -/
import Derived.Test.YtiledacfdaenbaaDoorQ29
namespace Go.Proofs.YtiledacfdaenbaaDoor

section
open Go.RowKit Go.PlainAid
section
variable {w : World} {g : Nat} {a b c d e : Value}
theorem rset0 (h : w.heap[g]? = some (.cells #[a, b, c, d, e] 24 (0, 0))) (x : Value) : (w.setCell ⟨g, 0, none⟩ x).heap[g]? = some (.cells #[x, b, c, d, e] 24 (0, 0)) := by simp [World.setCell, Array.getElem?_modify, h]
theorem rset1 (h : w.heap[g]? = some (.cells #[a, b, c, d, e] 24 (0, 0))) (x : Value) : (w.setCell ⟨g, 1, none⟩ x).heap[g]? = some (.cells #[a, x, c, d, e] 24 (0, 0)) := by simp [World.setCell, Array.getElem?_modify, h]
theorem rset2 (h : w.heap[g]? = some (.cells #[a, b, c, d, e] 24 (0, 0))) (x : Value) : (w.setCell ⟨g, 2, none⟩ x).heap[g]? = some (.cells #[a, b, x, d, e] 24 (0, 0)) := by simp [World.setCell, Array.getElem?_modify, h]
theorem rset3 (h : w.heap[g]? = some (.cells #[a, b, c, d, e] 24 (0, 0))) (x : Value) : (w.setCell ⟨g, 3, none⟩ x).heap[g]? = some (.cells #[a, b, c, x, e] 24 (0, 0)) := by simp [World.setCell, Array.getElem?_modify, h]
theorem rset4 (h : w.heap[g]? = some (.cells #[a, b, c, d, e] 24 (0, 0))) (x : Value) : (w.setCell ⟨g, 4, none⟩ x).heap[g]? = some (.cells #[a, b, c, d, x] 24 (0, 0)) := by simp [World.setCell, Array.getElem?_modify, h]
end
/-- What lies in memory while a record is read: the result's box and the record's box, and a row of fields behind them. -/
structure RK (w : World) (id ver kind : Int) (lang : ByteArray) (fv : Value) (F : List Fld) (wr : World) : Prop where
  f : wr.heap[w.heap.size + 1]? = some (.cells #[.int .i64 id, .int .i64 ver, .int .i64 kind, .string lang, fv] 24 (0, 0))
  r : wr.heap[w.heap.size]? = some (.cells #[.int .i64 0, .int .i64 0, .int .i64 0, .string ⟨#[]⟩, .slice none 0 0] 24 (0, 0))
  row : FN (w.heap.size + 2) fv F wr
  size : w.heap.size + 2 ≤ wr.heap.size
  bel : Below w.heap.size w wr
section
variable {w wr w3 : World} {id ver kind : Int} {lang : ByteArray} {fv : Value} {F : List Fld}
theorem RK.first (w : World) : RK w 0 0 0 ⟨#[]⟩ (.slice none 0 0) [] ((w.alloc (.cells #[.int .i64 0, .int .i64 0, .int .i64 0, .string ⟨#[]⟩, .slice none 0 0] 24)).alloc (.cells #[.int .i64 0, .int .i64 0, .int .i64 0, .string ⟨#[]⟩, .slice none 0 0] 24)) := by
  refine ⟨?_, (Below.heap_alloc _ _ _ (by simp)).trans (heap_alloc_new w _), FN.nil _ _, by simp, ((Below.refl w.heap.size w).alloc (Nat.le_refl _) _).alloc (by simp) _⟩
  have := heap_alloc_new (w.alloc (.cells #[.int .i64 0, .int .i64 0, .int .i64 0, .string ⟨#[]⟩, .slice none 0 0] 24)) (.cells #[.int .i64 0, .int .i64 0, .int .i64 0, .string ⟨#[]⟩, .slice none 0 0] 24)
  simpa using this
theorem RK.set (h : RK w id ver kind lang fv F wr) (j : Nat) (x : Value) {id2 ver2 kind2 : Int} {lang2 : ByteArray} (hf : (wr.setCell ⟨w.heap.size + 1, j, none⟩ x).heap[w.heap.size + 1]? = some (.cells #[.int .i64 id2, .int .i64 ver2, .int .i64 kind2, .string lang2, fv] 24 (0, 0))) :
    RK w id2 ver2 kind2 lang2 fv F (wr.setCell ⟨w.heap.size + 1, j, none⟩ x) :=
  ⟨hf, (heap_set_ne wr _ _ _ (by simp)).trans h.r, h.row.on (by simp) (fun i hi _ => heap_set_ne wr _ _ _ (by show i ≠ w.heap.size + 1; omega)), by simpa using h.size, h.bel.setCell (p := ⟨w.heap.size + 1, j, none⟩) (Nat.le_succ _) _⟩
theorem RK.setId (h : RK w id ver kind lang fv F wr) (x : Int) : RK w x ver kind lang fv F (wr.setCell ⟨w.heap.size + 1, 0, none⟩ (.int .i64 x)) := h.set 0 _ (rset0 h.f _)
theorem RK.setVer (h : RK w id ver kind lang fv F wr) (x : Int) : RK w id x kind lang fv F (wr.setCell ⟨w.heap.size + 1, 1, none⟩ (.int .i64 x)) := h.set 1 _ (rset1 h.f _)
theorem RK.setKind (h : RK w id ver kind lang fv F wr) (x : Int) : RK w id ver x lang fv F (wr.setCell ⟨w.heap.size + 1, 2, none⟩ (.int .i64 x)) := h.set 2 _ (rset2 h.f _)
theorem RK.setLang (h : RK w id ver kind lang fv F wr) (x : ByteArray) : RK w id ver kind x fv F (wr.setCell ⟨w.heap.size + 1, 3, none⟩ (.string x)) := h.set 3 _ (rset3 h.f _)
theorem RK.after (h : RK w id ver kind lang fv F wr) (hb : Below wr.heap.size wr w3) : RK w id ver kind lang fv F w3 :=
  have hs := h.size
  ⟨(hb.block _ (by omega)).trans h.f, (hb.block _ (by omega)).trans h.r, h.row.on hb.size (fun i _ hi => hb.block i hi), Nat.le_trans hs hb.size, h.bel.trans (hb.mono h.bel.size)⟩
theorem RK.ret (h : RK w id ver kind lang fv F wr) :
    RowKit.Hid ((setR5 wr w.heap.size (.int .i64 id) (.int .i64 ver) (.int .i64 kind) (.string lang) fv).heap[w.heap.size]? = some (.cells #[.int .i64 id, .int .i64 ver, .int .i64 kind, .string lang, fv] 24 (0, 0))) ∧
    RowKit.Hid (New w.heap.size (FL fv F) (setR5 wr w.heap.size (.int .i64 id) (.int .i64 ver) (.int .i64 kind) (.string lang) fv)) ∧
    RowKit.Hid (Below w.heap.size w (setR5 wr w.heap.size (.int .i64 id) (.int .i64 ver) (.int .i64 kind) (.string lang) fv)) :=
  ⟨rec_set5 h.r, ((h.row.on (by rw [rec_size]; exact Nat.le_refl _) (fun i hi _ => rec_other i (by omega))).new).mono (by omega), rec_below h.bel⟩
theorem RK.push {f : Fld} {fv2 : Value} (h : RK w id ver kind lang fv F wr) (hg : wr.grownBy w3 fv.ownBlock) (hrow : FN (w.heap.size + 2) fv2 (F ++ [f]) w3) :
    RK w id ver kind lang fv2 (F ++ [f]) (w3.setCell ⟨w.heap.size + 1, 4, none⟩ fv2) ∧ w3.heap[w.heap.size + 1]? = some (.cells #[.int .i64 id, .int .i64 ver, .int .i64 kind, .string lang, fv] 24 (0, 0)) := by
  have hs := h.size
  obtain ⟨us, _, hown, _⟩ := h.row
  have hb := fun k hk => (World.ownsRow.lt hown k hk).1
  have hf := (hg.block (w.heap.size + 1) (by omega) (fun e => by have := hb _ e.symm; omega)).trans h.f
  have hr := (hg.block w.heap.size (by omega) (fun e => by have := hb _ e.symm; omega)).trans h.r
  refine ⟨⟨rset4 hf _, (heap_set_ne w3 _ _ _ (by simp)).trans hr, hrow.on (by simp) (fun i hi _ => heap_set_ne w3 _ _ _ (by show i ≠ w.heap.size + 1; omega)), ?_, ?_⟩, hf⟩
  · have := hg.size
    simp
    omega
  · exact (h.bel.grown hg (by omega) (fun k hk => by have := hb k hk; omega)).setCell (p := ⟨w.heap.size + 1, 4, none⟩) (Nat.le_succ _) _
theorem RK.cells (h : RK w id ver kind lang fv F wr) : RCells (w.heap.size + 1) id ver kind lang fv wr ∧ RCells w.heap.size 0 0 0 ⟨#[]⟩ (.slice none 0 0) wr := ⟨rcells h.f, rcells h.r⟩
end
theorem numF_le (l : List UInt8) (i n : Nat) : -1 ≤ numF l i n ∧ numF l i n < 10 ^ n := by
  unfold numF
  have hp : (0 : Int) < 10 ^ n := Int.pow_pos (by decide)
  by_cases h : l.length < i + n ∨ ((l.drop i).take n).all digB = false
  · rw [if_pos h]
    omega
  · rw [if_neg h]
    have h1 : ((l.drop i).take n).all digB = true := by
      cases e : ((l.drop i).take n).all digB
      · exact absurd (.inr e) h
      · rfl
    have hle : i + n ≤ l.length := Nat.le_of_not_lt fun h2 => h (.inl h2)
    have h2 := valV_lt n ((l.drop i).take n) h1 (by rw [List.length_take, List.length_drop]; omega)
    rw [List.take_take, Nat.min_self] at h2
    have h3 : ((valV ((l.drop i).take n) : Nat) : Int) < ((10 ^ n : Nat) : Int) := by omega
    rw [Int.natCast_pow] at h3
    have e10 : ((10 : Nat) : Int) = 10 := rfl
    rw [e10] at h3
    omega
theorem dirG_none (s : List UInt8) (base i : Nat) (h : ¬ base ≤ i + 12) (hb : numF s (i + 3) 4 < 7 ∨ numF s (i + 7) 5 < 0 ∨ (s.length : Int) < (base : Int) + numF s (i + 7) 5 + numF s (i + 3) 4) : dirG s base i = none := by
  rw [dirG, dif_neg h, if_pos hb]
theorem dirG_badf (s : List UInt8) (base i : Nat) (h : ¬ base ≤ i + 12) (hb : ¬ (numF s (i + 3) 4 < 7 ∨ numF s (i + 7) 5 < 0 ∨ (s.length : Int) < (base : Int) + numF s (i + 7) 5 + numF s (i + 3) 4))
    (hf : fldG ((s.drop i).take 3) ((s.drop (base + (numF s (i + 7) 5).toNat)).take (numF s (i + 3) 4).toNat) = none) : dirG s base i = none := by
  rw [dirG, dif_neg h, if_neg hb, hf]
theorem dirG_go (s : List UInt8) (base i : Nat) (h : ¬ base ≤ i + 12) (hb : ¬ (numF s (i + 3) 4 < 7 ∨ numF s (i + 7) 5 < 0 ∨ (s.length : Int) < (base : Int) + numF s (i + 7) 5 + numF s (i + 3) 4)) (f : Fld)
    (hf : fldG ((s.drop i).take 3) ((s.drop (base + (numF s (i + 7) 5).toNat)).take (numF s (i + 3) 4).toNat) = some f) : dirG s base i = (dirG s base (i + 12)).map (f :: ·) := by
  rw [dirG, dif_neg h, if_neg hb, hf]
theorem wrap_3 (k : Nat) (h : k ≤ 1000000) : wrap64 ((k : Int) + 3) = (k : Int) + 3 := wrap64_of (by omega) (by omega)
theorem wrap_7 (k : Nat) (h : k ≤ 1000000) : wrap64 ((k : Int) + 7) = (k : Int) + 7 := wrap64_of (by omega) (by omega)
def kindK (c : UInt8) (k : Nat) : Int := if kindF c ≤ (k : Int) then kindF c else 0
theorem kind_ge (c : UInt8) : 0 ≤ kindF c ∧ kindF c ≤ 4 := by
  unfold kindF
  repeat' split
  all_goals omega
theorem kindK0 (c : UInt8) : kindK c 0 = 0 := by
  have := kind_ge c
  unfold kindK
  split <;> omega
theorem kindK4 (c : UInt8) : kindK c 4 = kindF c := by
  have := kind_ge c
  unfold kindK
  rw [if_pos (by omega)]
theorem kindK_hit (c : UInt8) (k : Nat) (h : kindF c = (k : Int) + 1) : kindK c (k + 1) = (k : Int) + 1 := by
  unfold kindK
  rw [if_pos (by omega), h]
theorem kindK_miss (c : UInt8) (k : Nat) (h : kindF c ≠ (k : Int) + 1) : kindK c (k + 1) = kindK c k := by
  unfold kindK
  by_cases h1 : kindF c ≤ (k : Int)
  · rw [if_pos h1, if_pos (by omega)]
  · rw [if_neg h1, if_neg (by omega)]
def kcode (k : Nat) : Nat := if k = 0 then 98 else if k = 1 then 115 else if k = 2 then 109 else 100
theorem kcode_bt : ∀ k, k < 4 → bt (⟨#[98, 115, 109, 100]⟩ : ByteArray) k = (kcode k : Int) := by
  intro k hk
  match k, hk with
  | 0, _ => rfl
  | 1, _ => rfl
  | 2, _ => rfl
  | 3, _ => rfl
theorem kcode_iff (c : UInt8) (k : Nat) (hk : k < 4) : (kcode k = c.toNat) ↔ kindF c = (k : Int) + 1 := by
  have h98 : c = 98 ↔ c.toNat = 98 := by rw [← UInt8.toNat_inj]; rfl
  have h115 : c = 115 ↔ c.toNat = 115 := by rw [← UInt8.toNat_inj]; rfl
  have h109 : c = 109 ↔ c.toNat = 109 := by rw [← UInt8.toNat_inj]; rfl
  have h100 : c = 100 ↔ c.toNat = 100 := by rw [← UInt8.toNat_inj]; rfl
  unfold kcode kindF
  simp only [h98, h115, h109, h100]
  match k, hk with
  | 0, _ => repeat' split
            all_goals omega
  | 1, _ => repeat' split
            all_goals omega
  | 2, _ => repeat' split
            all_goals omega
  | 3, _ => repeat' split
            all_goals omega

set_option maxHeartbeats 64000000 in
set_option maxRecDepth 100000 in
theorem refRead_any (l : List UInt8) (hz : l.length ≤ 100000) (w : World) :
    Calls Tryd.prog 27 #[.string (S l)] w fun e w' => ∃ r u ok, e = .returned (.tuple #[RV r u, .bool ok]) ∧ Below w.heap.size w w' ∧ New w.heap.size (FL u r.fields) w' ∧ ((recG l = some r ∧ ok = true) ∨ (recG l = none ∧ ok = false)) := by
  obtain ⟨Q, hQ⟩ : ∃ Q, (fun (e : Ending) (w' : World) => ∃ r u ok, e = .returned (.tuple #[RV r u, .bool ok]) ∧ Below w.heap.size w w' ∧ New w.heap.size (FL u r.fields) w' ∧ ((recG l = some r ∧ ok = true) ∨ (recG l = none ∧ ok = false))) = Q := ⟨_, rfl⟩
  rw [hQ]
  have HQ : RowKit.Hid (∀ e w', (∃ r u ok, e = .returned (.tuple #[RV r u, .bool ok]) ∧ Below w.heap.size w w' ∧ New w.heap.size (FL u r.fields) w' ∧ ((recG l = some r ∧ ok = true) ∨ (recG l = none ∧ ok = false))) → Q e w') := by rw [← hQ]; exact fun _ _ h => h
  clear hQ
  have HFst := Lib.hid (RK.first w)
  obtain ⟨W0, hW0⟩ : ∃ W0, (w.alloc (.cells #[.int .i64 0, .int .i64 0, .int .i64 0, .string ⟨#[]⟩, .slice none 0 0] 24)).alloc (.cells #[.int .i64 0, .int .i64 0, .int .i64 0, .string ⟨#[]⟩, .slice none 0 0] 24) = W0 := ⟨_, rfl⟩
  rw [hW0] at HFst
  have HW0 := Lib.hid hW0
  clear hW0
  obtain ⟨z, hlz⟩ : ∃ z, l.length = z := ⟨_, rfl⟩
  have hsz : (S l).size = z := by rw [S_size, hlz]
  have HZ := Lib.hid hlz
  have hbt := get_bt (S l)
  have HBS := Lib.hid (fun i => bt_S l i)
  have HExt := Lib.hid (fun a b => S_extract l a b)
  have HNum := Lib.hid (fun i n hi hn W => refNumber_any l (by omega) i n hi hn _ rfl W)
  rw [hlz] at hz
  obtain ⟨s, hs⟩ : ∃ s, S l = s := ⟨_, rfl⟩
  rw [hs] at hsz hbt HBS HExt HNum ⊢
  have HS := Lib.hid hs
  clear hs hlz
  obtain ⟨⟨⟨f0, f1, f2, f3, f4⟩, z0, z1, z2, z3, z4⟩, ⟨r0, r1, r2, r3, r4⟩, y0, y1, y2, y3, y4⟩ := HFst.out.cells
  by_cases h26 : z < 26
  · have HN : RowKit.Hid (recG l = none) := by unfold RowKit.Hid recG; rw [if_pos (by rw [HZ.out]; exact h26)]
    have t1 : decide ((z : Int) < 26) = true := decide_eq_true (by omega)
    obtain ⟨hfin, hnew, hexc⟩ := HFst.out.ret
    unfold setR5 at hfin hnew hexc
    have hgne : (w.heap.size : Nat) ≠ w.heap.size + 1 := by omega
    clear h26
    go_enter Tryd.func27, Tryd.ntmps27
    go_upto_region 1 with fail
    go_upto_region 2 with fail
    rw [HW0.out]
    clear HW0
    go_wp2
    refine bodyPost_ret (results_row_tmp10 rfl _ _ w.heap.size _ _ _ _ rfl hfin.out Tryd.underlying24 rfl (by kernel_rfl)) rfl ?_
    exact HQ.out _ _ ⟨⟨0, 0, 0, [], []⟩, _, false, rfl, hexc.out, hnew.out, .inr ⟨HN.out, rfl⟩⟩
  have t26 : decide ((z : Int) < 26) = false := decide_eq_false (by omega)
  have HZ26 : RowKit.Hid (26 ≤ z) := by unfold RowKit.Hid; omega
  obtain ⟨ver, hver⟩ : ∃ x, numF l 7 1 = x := ⟨_, rfl⟩
  obtain ⟨base, hbase⟩ : ∃ x, numF l 11 5 = x := ⟨_, rfl⟩
  obtain ⟨id, hid⟩ : ∃ x, numF l 16 4 = x := ⟨_, rfl⟩
  have c7 := Lib.hid (fun W => HNum.out 7 1 (by decide) (by decide) W)
  have c11 := Lib.hid (fun W => HNum.out 11 5 (by decide) (by decide) W)
  have c16 := Lib.hid (fun W => HNum.out 16 4 (by decide) (by decide) W)
  rw [hver] at c7
  rw [hbase] at c11
  rw [hid] at c16
  change RowKit.Hid (∀ W, Calls _ _ #[_, .int .i64 7, .int .i64 1] W _) at c7
  change RowKit.Hid (∀ W, Calls _ _ #[_, .int .i64 11, .int .i64 5] W _) at c11
  change RowKit.Hid (∀ W, Calls _ _ #[_, .int .i64 16, .int .i64 4] W _) at c16
  have hbl := numF_le l 11 5
  rw [hbase] at hbl
  have HRec : RowKit.Hid (recG l = if base < 25 ∨ (z : Int) < base then none else (dirG l base.toNat 24).map fun F => ⟨id, ver, kindF (l.getD 6 0), (l.drop 8).take 3, F⟩) := by
    unfold RowKit.Hid recG
    rw [if_neg (by rw [HZ.out]; exact h26), HZ.out, hbase, hid, hver]
  have HKc := Lib.hid (get_bt (⟨#[98, 115, 109, 100]⟩ : ByteArray))
  have HC6 := Lib.hid (HBS.out 6)
  obtain ⟨kd, hkd⟩ : ∃ x, kindF (l.getD 6 0) = x := ⟨_, rfl⟩
  have HKd : RowKit.Hid (kindK (l.getD 6 0) 4 = kd) := by unfold RowKit.Hid; rw [kindK4, hkd]
  rw [hkd] at HRec
  have HK0 : RowKit.Hid (RK w 0 0 (kindK (l.getD 6 0) 0) ⟨#[]⟩ (.slice none 0 0) [] W0) := by rw [kindK0]; exact HFst.out
  have HSl : RowKit.Hid (s.extract 8 11 = S ((l.drop 8).take 3)) := by unfold RowKit.Hid; rw [HExt.out, List.drop_take]
  obtain ⟨ll, hll⟩ : ∃ x, (l.drop 8).take 3 = x := ⟨_, rfl⟩
  rw [hll] at HSl HRec
  obtain ⟨sl, hsl⟩ : ∃ x, S ll = x := ⟨_, rfl⟩
  have HLs := Lib.hid hsl
  rw [hsl] at HSl
  have HHit := Lib.hid (kindK_hit (l.getD 6 0))
  have HMiss := Lib.hid (kindK_miss (l.getD 6 0))
  have HIff := Lib.hid (kcode_iff (l.getD 6 0))
  obtain ⟨cn, hcn⟩ : ∃ x, (l.getD 6 0).toNat = x := ⟨_, rfl⟩
  rw [hcn] at HC6 HIff
  clear hver hbase hid hkd hll hsl hcn h26 f0 f1 f2 f3 f4 z0 z1 z2 z3 z4 r0 r1 r2 r3 r4 y0 y1 y2 y3 y4 HFst
  go_enter Tryd.func27, Tryd.ntmps27
  go_upto_region 2 with fail
  rw [HW0.out]
  clear HW0
  go_wp2
  go_loopw [6] (fun i wr => ∃ k : Nat, i = .int .i64 (k : Int) ∧ k ≤ 4 ∧ RowKit.Hid (RK w 0 0 (kindK (l.getD 6 0) k) ⟨#[]⟩ (.slice none 0 0) [] wr)) (fun i _ => 4 - (intOf i).toNat)
  case atStart => exact ⟨0, rfl, by decide, HK0⟩
  case round =>
    obtain ⟨k, rfl, hk4, HK⟩ := hrel
    by_cases hkn : k < 4
    · have j1 : (k : Int) < 4 := by omega
      have HKb := Lib.hid (kcode_bt k hkn)
      have hiff := HIff.out k hkn
      obtain ⟨kc, hkc⟩ : ∃ x, kcode k = x := ⟨_, rfl⟩
      rw [hkc] at HKb hiff
      obtain ⟨bb, hbb⟩ : ∃ b, decide ((kc : Int) = (cn : Int)) = b := ⟨_, rfl⟩
      have HBB2 := Lib.hid hbb
      have HBB : RowKit.Hid (((kc : Int) == (cn : Int)) = bb) := by
        unfold RowKit.Hid
        rw [← hbb]
        rfl
      have HIf : RowKit.Hid (bb = true ↔ kindF (l.getD 6 0) = (k : Int) + 1) := by
        unfold RowKit.Hid
        rw [← hbb, decide_eq_true_iff, ← hiff]
        omega
      clear hkc hbb hiff
      go_upto_region 8 with fail
      apply wp_region_rel (R := fun u v => Below u.heap.size u v) (V := [SPR.eq _ (.string ⟨#[98, 115, 109, 100]⟩), SPR.eq _ (.int .i64 (k : Int)), SPR.eq _ (.int .u8 (kc : Int)), SPR.eq _ (.string s), SPR.eq _ (.int .u8 (cn : Int)), SPR.eq _ (.bool bb)])
      case htrans => exact fun _ _ _ h k => h.trans (k.mono h.size)
      case hdrew => exact (Below.refl _ _).drew
      case hm => kernel_rfl
      case hd => kernel_rfl
      case hb => kernel_rfl
      case hA =>
        intro vs
        simp only [puts, Act.put, List.setIfInBounds_toArray, List.set_cons_zero, List.set_cons_succ]
        exact rfl
      case hob =>
        refine ObsR.cons _ _ _ _ _ _ _ ?o0 (ObsR.cons _ _ _ _ _ _ _ ?o1 (ObsR.cons _ _ _ _ _ _ _ ?o2 (ObsR.cons _ _ _ _ _ _ _ ?o3 (ObsR.cons _ _ _ _ _ _ _ ?o4 (ObsR.cons _ _ _ _ _ _ _ ?o5 (ObsR.nil _ _ _ _ _ _ _))))))
        case o0 =>
          intro vs W hw hd K hK
          go_simp
          exact hK.out _ _ rfl (Below.refl _ _)
        case o1 =>
          intro vs W hw hd K hK
          go_simp
          exact hK.out _ _ rfl (Below.refl _ _)
        case o2 =>
          intro vs W hw hd K hK
          have h0 : vs 0 = .string ⟨#[98, 115, 109, 100]⟩ := hd 0 (by kernel_rfl)
          have h1 : vs 1 = .int .i64 (k : Int) := hd 1 (by kernel_rfl)
          have hx := HKc.out
          have hx2 := HKb.out
          have i0 : (0 : Int) ≤ (k : Int) := by omega
          have i1 : (k : Int) < 4 := by omega
          have i2 : ((k : Int)).toNat = k := by omega
          simp only [Nat.reduceAdd, h0, h1] at hK ⊢
          go_simp
          exact hK.out _ _ rfl (Below.refl _ _)
        case o3 =>
          intro vs W hw hd K hK
          go_simp
          exact hK.out _ _ rfl (Below.refl _ _)
        case o4 =>
          intro vs W hw hd K hK
          have h3 : vs 3 = .string s := hd 3 (by kernel_rfl)
          have hy := HC6.out
          have hy2 : (6 : Int) < (z : Int) := by have := HZ26.out; omega
          simp only [Nat.reduceAdd, h3] at hK ⊢
          go_simp
          exact hK.out _ _ rfl (Below.refl _ _)
        case o5 =>
          intro vs W hw hd K hK
          have h2 : vs 2 = .int .u8 (kc : Int) := hd 2 (by kernel_rfl)
          have h4 : vs 4 = .int .u8 (cn : Int) := hd 4 (by kernel_rfl)
          have hy := HBB.out
          have hy2 := HBB2.out
          simp only [Nat.reduceAdd, h2, h4] at hK ⊢
          go_simp
          exact hK.out _ _ rfl (Below.refl _ _)
      case hfin =>
        intro vs W hw hv'
        have e5 : vs 5 = .bool bb := hv' 5 (by decide)
        simp only [Nat.reduceAdd, e5]
        have hRK := HK.out.after hw
        obtain ⟨⟨⟨f0, f1, f2, f3, f4⟩, z0, z1, z2, z3, z4⟩, -⟩ := hRK.cells
        clear hv' hw e5 HBB HBB2 HKb
        cases bb with
        | true =>
          have HK2 : RowKit.Hid (RK w 0 0 (kindK (l.getD 6 0) (k + 1)) ⟨#[]⟩ (.slice none 0 0) [] (W.setCell ⟨w.heap.size + 1, 2, none⟩ (.int .i64 ((k : Int) + 1)))) := by
            unfold RowKit.Hid
            rw [HHit.out k (HIf.out.1 rfl)]
            exact hRK.setKind _
          have hwk : wrap64 ((k : Int) + 1) = (k : Int) + 1 := wrap64_of (by omega) (by omega)
          clear HIf hRK
          go_wp2
          go_roundw
          case rel => exact ⟨k + 1, by go_num, by omega, HK2⟩
          case measure => simp [intOf]; omega
        | false =>
          have HK2 := Lib.hid hRK
          rw [← HMiss.out k (fun h => by cases HIf.out.2 h)] at HK2
          clear HIf hRK
          go_wp2
          go_roundw
          case rel => exact ⟨k + 1, by go_num, by omega, HK2⟩
          case measure => simp [intOf]; omega
    · obtain rfl : k = 4 := by omega
      have hRK := HK.out
      rw [HKd.out] at hRK
      obtain ⟨⟨⟨f0, f1, f2, f3, f4⟩, z0, z1, z2, z3, z4⟩, -⟩ := hRK.cells
      have hx3 := HSl.out
      have q1 : (8 : Int) ≤ (z : Int) := by have := HZ26.out; omega
      have q2 : (11 : Int) ≤ (z : Int) := by have := HZ26.out; omega
      obtain ⟨W2, hW2⟩ : ∃ W2, (wr.setCell ⟨w.heap.size + 1, 1, none⟩ (.int .i64 ver)).setCell ⟨w.heap.size + 1, 3, none⟩ (.string sl) = W2 := ⟨_, rfl⟩
      have hRK2 := (hRK.setVer ver).setLang sl
      rw [hW2] at hRK2
      have HW2 := Lib.hid hW2
      have HRK2 := Lib.hid hRK2
      have HRK3 := Lib.hid (hRK2.setId id)
      clear hRK hRK2 hW2 HK HKd HHit HMiss HIff HKc HC6 HSl
      go_wp2_with fail
      refine (c7.out _).mono ?_
      rintro e w1 ⟨rfl, hw1⟩
      rw [hw1]
      clear hw1
      go_wp2_with fail
      rw [HW2.out]
      refine (c11.out _).mono ?_
      rintro e w1 ⟨rfl, hw1⟩
      rw [hw1]
      clear hw1 f0 f1 f2 f3 f4 z0 z1 z2 z3 z4 HW2 q1 q2 hx3
      obtain ⟨⟨⟨f0, f1, f2, f3, f4⟩, z0, z1, z2, z3, z4⟩, -⟩ := HRK2.out.cells
      go_wp2_with fail
      refine (c16.out _).mono ?_
      rintro e w1 ⟨rfl, hw1⟩
      rw [hw1]
      obtain ⟨W3, hW3⟩ : ∃ W3, W2.setCell ⟨w.heap.size + 1, 0, none⟩ (.int .i64 id) = W3 := ⟨_, rfl⟩
      rw [hW3] at HRK3
      have HW3 := Lib.hid hW3
      clear hw1 hW3
      go_upto_region 14 with fail
      rw [HW3.out]
      clear HW3 f0 f1 f2 f3 f4 z0 z1 z2 z3 z4 HRK2
      have HK := HRK3
      by_cases hb1 : base < 25
      · have HN : RowKit.Hid (recG l = none) := by unfold RowKit.Hid; rw [HRec.out, if_pos (.inl hb1)]
        have t1 : decide (base < 25) = true := decide_eq_true hb1
        obtain ⟨⟨⟨f0, f1, f2, f3, f4⟩, z0, z1, z2, z3, z4⟩, ⟨r0, r1, r2, r3, r4⟩, y0, y1, y2, y3, y4⟩ := HK.out.cells
        obtain ⟨hfin, hnew, hexc⟩ := HK.out.ret
        have hgne : (w.heap.size : Nat) ≠ w.heap.size + 1 := by omega
        unfold setR5 at hfin hnew hexc
        clear HK HRK3 hb1 c16 c11 c7
        go_wp2
        refine bodyPost_ret (results_row_tmp10 rfl _ _ w.heap.size _ _ _ _ rfl hfin.out Tryd.underlying24 rfl (by kernel_rfl)) rfl ?_
        exact HQ.out _ _ ⟨⟨id, ver, kd, ll, []⟩, _, false, by unfold RV; rw [HLs.out]; rfl, hexc.out, hnew.out, .inr ⟨HN.out, rfl⟩⟩
      have t1 : decide (base < 25) = false := decide_eq_false hb1
      by_cases hb2 : (z : Int) < base
      · have HN : RowKit.Hid (recG l = none) := by unfold RowKit.Hid; rw [HRec.out, if_pos (.inr hb2)]
        have t2 : decide ((z : Int) < base) = true := decide_eq_true hb2
        obtain ⟨⟨⟨f0, f1, f2, f3, f4⟩, z0, z1, z2, z3, z4⟩, ⟨r0, r1, r2, r3, r4⟩, y0, y1, y2, y3, y4⟩ := HK.out.cells
        obtain ⟨hfin, hnew, hexc⟩ := HK.out.ret
        have hgne : (w.heap.size : Nat) ≠ w.heap.size + 1 := by omega
        unfold setR5 at hfin hnew hexc
        clear HK HRK3 hb1 hb2 c16 c11 c7
        go_wp2
        refine bodyPost_ret (results_row_tmp10 rfl _ _ w.heap.size _ _ _ _ rfl hfin.out Tryd.underlying24 rfl (by kernel_rfl)) rfl ?_
        exact HQ.out _ _ ⟨⟨id, ver, kd, ll, []⟩, _, false, by unfold RV; rw [HLs.out]; rfl, hexc.out, hnew.out, .inr ⟨HN.out, rfl⟩⟩
      have t2 : decide ((z : Int) < base) = false := decide_eq_false hb2
      obtain ⟨bn, hbn⟩ : ∃ n : Nat, base = (n : Int) := ⟨base.toNat, by omega⟩
      subst hbn
      have HR2 : RowKit.Hid (recG l = (dirG l bn 24).map fun F => ⟨id, ver, kd, ll, F⟩) := by
        unfold RowKit.Hid
        rw [HRec.out, if_neg (fun h => by rcases h with h | h; exact hb1 h; exact hb2 h), Int.toNat_natCast]
      have hbz : bn ≤ z := by omega
      have hb25 : 25 ≤ bn := by omega
      have t2n : decide (z < bn) = false := decide_eq_false (by omega)
      have HD0 : RowKit.Hid (dirG l bn 24 = (dirG l bn 24).map (([] : List Fld) ++ ·)) := by
        unfold RowKit.Hid
        cases dirG l bn 24 <;> rfl
      clear HRec hb1 hb2 c16 c11 c7 hbl HZ26
      go_wp2
      go_loopw [8] (fun i wr => ∃ (k n : Nat) (F : List Fld) (ao : Option Addr) (cp : Nat), i = .int .i64 (k : Int) ∧ 24 ≤ k ∧ k ≤ bn + 12 ∧ F.length = n ∧ n ≤ k ∧ RowKit.Hid (dirG l bn 24 = (dirG l bn k).map (F ++ ·)) ∧ RowKit.Hid (RK w id ver kd sl (.slice ao n cp) F wr)) (fun i _ => bn + 12 - (intOf i).toNat)
      case atStart => exact ⟨24, 0, [], none, 0, rfl, Nat.le_refl _, by omega, rfl, Nat.zero_le _, HD0, HK⟩
      case round =>
        clear HRK3 HK HK0
        obtain ⟨k, n, F, ao, cp, rfl, hk24, hkb, hFn, hnk, HD, HK⟩ := hrel
        by_cases hend : bn ≤ k + 12
        · have HEnd : RowKit.Hid (recG l = some ⟨id, ver, kd, ll, F⟩) := by
            unfold RowKit.Hid
            rw [HR2.out, HD.out, dirG, dif_pos hend]
            simp
          have i3 : ¬ (k : Int) + 12 < (bn : Int) := by omega
          obtain ⟨⟨⟨f0, f1, f2, f3, f4⟩, z0, z1, z2, z3, z4⟩, ⟨r0, r1, r2, r3, r4⟩, y0, y1, y2, y3, y4⟩ := HK.out.cells
          obtain ⟨hfin, hnew, hexc⟩ := HK.out.ret
          have hgne : (w.heap.size : Nat) ≠ w.heap.size + 1 := by omega
          unfold setR5 at hfin hnew hexc
          clear HK HD hend
          go_wp2
          refine bodyPost_ret (results_row_tmp10 rfl _ _ w.heap.size _ _ _ _ rfl hfin.out Tryd.underlying24 rfl (by kernel_rfl)) rfl ?_
          exact HQ.out _ _ ⟨⟨id, ver, kd, ll, F⟩, _, true, by unfold RV; rw [HLs.out]; rfl, hexc.out, hnew.out, .inl ⟨HEnd.out, rfl⟩⟩
        · have i3 : (k : Int) + 12 < (bn : Int) := by omega
          obtain ⟨n1, hn1⟩ : ∃ x, numF l (k + 3) 4 = x := ⟨_, rfl⟩
          obtain ⟨n2, hn2⟩ : ∃ x, numF l (k + 7) 5 = x := ⟨_, rfl⟩
          have hl1 := numF_le l (k + 3) 4
          have hl2 := numF_le l (k + 7) 5
          rw [hn1] at hl1
          rw [hn2] at hl2
          have c3 := Lib.hid (fun W => HNum.out (k + 3) 4 (by omega) (by decide) W)
          have c7 := Lib.hid (fun W => HNum.out (k + 7) 5 (by omega) (by decide) W)
          rw [hn1] at c3
          rw [hn2] at c7
          rw [show (((k + 3 : Nat)) : Int) = (k : Int) + 3 by omega] at c3
          rw [show (((k + 7 : Nat)) : Int) = (k : Int) + 7 by omega] at c7
          change RowKit.Hid (∀ W, Calls _ _ #[_, _, .int .i64 4] W _) at c3
          change RowKit.Hid (∀ W, Calls _ _ #[_, _, .int .i64 5] W _) at c7
          have HDn := Lib.hid (dirG_none l bn k hend)
          have HDf := Lib.hid (dirG_badf l bn k hend)
          have HDg := Lib.hid (dirG_go l bn k hend)
          rw [hn1, hn2, HZ.out] at HDn HDf HDg
          have hl3 : n1 < 10000 := by have := hl1.2; omega
          have hl4 : n2 < 100000 := by have := hl2.2; omega
          have hl5 : -1 ≤ n1 := hl1.1
          have hl6 : -1 ≤ n2 := hl2.1
          have hkbig : k ≤ 1000000 := Nat.le_trans hkb (by omega)
          have hw1 := wrap_3 k hkbig
          have hw2 := wrap_7 k hkbig
          clear hn1 hn2 hl1 hl2 hend
          go_wp2_with fail
          refine (c3.out _).mono ?_
          rintro e w1 ⟨rfl, hwx⟩
          rw [hwx]
          clear hwx
          go_wp2_with fail
          refine (c7.out _).mono ?_
          rintro e w1 ⟨rfl, hwx⟩
          rw [hwx]
          clear hwx c3 c7
          have HNone : RowKit.Hid (n1 < 7 ∨ n2 < 0 ∨ (z : Int) < (bn : Int) + n2 + n1 → recG l = none) := by
            intro h
            rw [HR2.out, HD.out, HDn.out h]
            rfl
          by_cases g1 : n1 < 7
          · have HN := Lib.hid (HNone.out (.inl g1))
            have u1 : decide (n1 < 7) = true := decide_eq_true g1
            obtain ⟨⟨⟨f0, f1, f2, f3, f4⟩, z0, z1, z2, z3, z4⟩, ⟨r0, r1, r2, r3, r4⟩, y0, y1, y2, y3, y4⟩ := HK.out.cells
            obtain ⟨hfin, hnew, hexc⟩ := HK.out.ret
            have hgne : (w.heap.size : Nat) ≠ w.heap.size + 1 := by omega
            unfold setR5 at hfin hnew hexc
            clear HK HD g1 HNone HDn HDf HDg
            go_wp2
            refine bodyPost_ret (results_row_tmp10 rfl _ _ w.heap.size _ _ _ _ rfl hfin.out Tryd.underlying24 rfl (by kernel_rfl)) rfl ?_
            exact HQ.out _ _ ⟨⟨id, ver, kd, ll, F⟩, _, false, by unfold RV; rw [HLs.out]; rfl, hexc.out, hnew.out, .inr ⟨HN.out, rfl⟩⟩
          have u1 : decide (n1 < 7) = false := decide_eq_false g1
          by_cases g2 : n2 < 0
          · have HN := Lib.hid (HNone.out (.inr (.inl g2)))
            have u2 : decide (n2 < 0) = true := decide_eq_true g2
            obtain ⟨⟨⟨f0, f1, f2, f3, f4⟩, z0, z1, z2, z3, z4⟩, ⟨r0, r1, r2, r3, r4⟩, y0, y1, y2, y3, y4⟩ := HK.out.cells
            obtain ⟨hfin, hnew, hexc⟩ := HK.out.ret
            have hgne : (w.heap.size : Nat) ≠ w.heap.size + 1 := by omega
            unfold setR5 at hfin hnew hexc
            clear HK HD g2 HNone HDn HDf HDg
            go_wp2
            refine bodyPost_ret (results_row_tmp10 rfl _ _ w.heap.size _ _ _ _ rfl hfin.out Tryd.underlying24 rfl (by kernel_rfl)) rfl ?_
            exact HQ.out _ _ ⟨⟨id, ver, kd, ll, F⟩, _, false, by unfold RV; rw [HLs.out]; rfl, hexc.out, hnew.out, .inr ⟨HN.out, rfl⟩⟩
          have u2 : decide (n2 < 0) = false := decide_eq_false g2
          by_cases g3 : (z : Int) < (bn : Int) + n2 + n1
          · have HN := Lib.hid (HNone.out (.inr (.inr g3)))
            have u3 : decide ((z : Int) < (bn : Int) + n2 + n1) = true := decide_eq_true g3
            obtain ⟨⟨⟨f0, f1, f2, f3, f4⟩, z0, z1, z2, z3, z4⟩, ⟨r0, r1, r2, r3, r4⟩, y0, y1, y2, y3, y4⟩ := HK.out.cells
            obtain ⟨hfin, hnew, hexc⟩ := HK.out.ret
            have hgne : (w.heap.size : Nat) ≠ w.heap.size + 1 := by omega
            unfold setR5 at hfin hnew hexc
            clear HK HD g3 HNone HDn HDf HDg
            go_wp2
            refine bodyPost_ret (results_row_tmp10 rfl _ _ w.heap.size _ _ _ _ rfl hfin.out Tryd.underlying24 rfl (by kernel_rfl)) rfl ?_
            exact HQ.out _ _ ⟨⟨id, ver, kd, ll, F⟩, _, false, by unfold RV; rw [HLs.out]; rfl, hexc.out, hnew.out, .inr ⟨HN.out, rfl⟩⟩
          have u3 : decide ((z : Int) < (bn : Int) + n2 + n1) = false := decide_eq_false g3
          obtain ⟨m, hm⟩ : ∃ x : Nat, n1 = (x : Int) := ⟨n1.toNat, by clear hw1 hw2; omega⟩
          obtain ⟨q, hq⟩ : ∃ x : Nat, n2 = (x : Int) := ⟨n2.toNat, by clear hw1 hw2; omega⟩
          subst hm hq
          have hm7 : 7 ≤ m := by clear hw1 hw2; omega
          have hmq : bn + q + m ≤ z := by clear hw1 hw2; omega
          have hk3 : k + 3 ≤ z := by clear hw1 hw2; omega
          have HNot : RowKit.Hid (¬ ((m : Int) < 7 ∨ (q : Int) < 0 ∨ (z : Int) < (bn : Int) + (q : Int) + (m : Int))) := by
            intro h
            rcases h with h | h | h
            · exact g1 h
            · exact g2 h
            · exact g3 h
          have HBf := Lib.hid (HDf.out HNot.out)
          have HGf := Lib.hid (HDg.out HNot.out)
          rw [Int.toNat_natCast, Int.toNat_natCast] at HBf HGf
          have hlb : ((l.drop (bn + q)).take m).length = m := by rw [List.length_take, List.length_drop, HZ.out]; clear hw1 hw2; omega
          have cF := Lib.hid (fun W => refField_any ((l.drop k).take 3) ((l.drop (bn + q)).take m) (by rw [hlb]; exact hm7) (by rw [hlb]; exact Nat.le_trans (Nat.le_trans (Nat.le_add_left _ _) hmq) hz) W)
          have hx1 := HExt.out k (k + 3)
          have hx2 := HExt.out (bn + q) (bn + q + m)
          rw [List.drop_take, Nat.add_sub_cancel_left] at hx1 hx2
          obtain ⟨tg, htg⟩ : ∃ x, (l.drop k).take 3 = x := ⟨_, rfl⟩
          obtain ⟨bb, hbb⟩ : ∃ x, (l.drop (bn + q)).take m = x := ⟨_, rfl⟩
          rw [htg] at hx1 cF HBf HGf
          rw [hbb] at hx2 cF HBf HGf
          obtain ⟨stg, hstg⟩ : ∃ x, S tg = x := ⟨_, rfl⟩
          obtain ⟨sbb, hsbb⟩ : ∃ x, S bb = x := ⟨_, rfl⟩
          rw [hstg] at hx1 cF
          rw [hsbb] at hx2 cF
          have v1 : IntKind.i64.wrap ((k : Int) + 3) = (k : Int) + 3 := by rw [IntKind.wrap_i64]; clear hw1 hw2; omega
          have v2 : IntKind.i64.wrap ((bn : Int) + (q : Int)) = (bn : Int) + (q : Int) := by rw [IntKind.wrap_i64]; clear hw1 hw2 v1; omega
          have v3 : IntKind.i64.wrap ((bn : Int) + (q : Int) + (m : Int)) = (bn : Int) + (q : Int) + (m : Int) := by rw [IntKind.wrap_i64]; clear hw1 hw2 v1 v2; omega
          have o1 : (0 : Int) ≤ (k : Int) := by omega
          have o2 : (k : Int) ≤ (k : Int) + 3 := by omega
          have o3 : (k : Int) + 3 ≤ (z : Int) := by clear v1 v2 v3 hw1 hw2; omega
          have o4 : ((k : Int) + 3).toNat = k + 3 := by omega
          have o5 : (0 : Int) ≤ (bn : Int) + (q : Int) := by omega
          have o6 : (bn : Int) + (q : Int) ≤ (bn : Int) + (q : Int) + (m : Int) := by omega
          have o7 : (bn : Int) + (q : Int) + (m : Int) ≤ (z : Int) := by clear v1 v2 v3 hw1 hw2; omega
          have o8 : ((bn : Int) + (q : Int)).toNat = bn + q := by omega
          have o9 : ((bn : Int) + (q : Int) + (m : Int)).toNat = bn + q + m := by omega
          clear hlb htg hbb hstg hsbb hl3 hl4 hl5 hl6 HDn HDf HDg HNot HNone g1 g2 g3
          go_upto_region 22 with fail
          go_cut [11, 12] from 80 to 98 (fun bx okv wx => ∃ (gb : Nat) (f : Fld) (u : Value) (ok : Bool), bx = .pointer (some ⟨gb, 0, none⟩) ∧ okv = .bool ok ∧ RowKit.Hid (wx.heap[gb]? = some (.cells #[.string (S f.tag), .string (S f.ind), u, .int .i64 f.auth] 49 (0, 0))) ∧ RowKit.Hid (Below wr.heap.size wr wx) ∧ RowKit.Hid (New wr.heap.size (QL u f.subs) wx) ∧ RowKit.Hid ((fldG tg bb = some f ∧ ok = true) ∨ (fldG tg bb = none ∧ ok = false)))
          case first =>
            have HK' := HK
            clear HK HD u1 u2 u3 hw1 hw2 t1 t2 t26 HBf HGf hbt
            go_region_law (first
              | (go_simp; go_at_call 42; refine (cF.out _).mono ?_; rintro e W8 ⟨f, u, ok, rfl, hb8, hn8, hc8⟩; obtain ⟨au', cu', rfl, -, -⟩ := hn8.here.length; (first | have hN := (hb8.block _ (by simp)).trans (heap_alloc_new _ (.cells #[.string ⟨#[]⟩, .string ⟨#[]⟩, .slice none 0 0, .int .i64 0] 49)) | skip); (first | (have hN2 := fcells hN; obtain ⟨⟨x0, x1, x2, x3⟩, y0, y1, y2, y3⟩ := hN2) | skip); have hD : Below wr.heap.size wr W8 := (by first | exact ((Below.refl wr.heap.size wr).drew).trans hb8 | exact (((Below.refl wr.heap.size wr).drew).alloc (Nat.le_refl _) (.cells #[.string ⟨#[]⟩, .string ⟨#[]⟩, .slice none 0 0, .int .i64 0] 49)).trans (hb8.mono (by simp))); have HD8 := Lib.hid hD; have HN8 := Lib.hid hn8; have HC8 := Lib.hid hc8; clear hb8 hD hn8 hc8; unfold FV))
            all_goals
              first
                | (have hN1 := hN
                   have hfin := Lib.hid (fld_set4 (x0 := .string (S f.tag)) (x1 := .string (S f.ind)) (x2 := .slice au' f.subs.length cu') (x3 := .int .i64 f.auth) hN1)
                   have hB := Lib.hid (fld_below (x0 := .string (S f.tag)) (x1 := .string (S f.ind)) (x2 := .slice au' f.subs.length cu') (x3 := .int .i64 f.auth) HD8.out (Nat.le_refl wr.heap.size))
                   have hNw : RowKit.Hid (New wr.heap.size (QL (.slice au' f.subs.length cu') f.subs) (setF4 W8 wr.heap.size (.string (S f.tag)) (.string (S f.ind)) (.slice au' f.subs.length cu') (.int .i64 f.auth))) :=
                     (HN8.out.on (w' := setF4 W8 wr.heap.size (.string (S f.tag)) (.string (S f.ind)) (.slice au' f.subs.length cu') (.int .i64 f.auth)) (by rw [fld_size]; exact Nat.le_refl _) (fun i hi _ => fld_other i (by simp at hi; omega))).mono (by simp)
                   unfold setF4 at hfin hB hNw
                   clear hN1 hN HN8 HD8 x0 x1 x2 x3 y0 y1 y2 y3
                   go_wp2
                   go_meet
                   exact ⟨_, f, _, ok, rfl, rfl, hfin, hB, hNw, HC8⟩)
                | (have hfin := Lib.hid (heap_alloc_new W8 (.cells #[.string (S f.tag), .string (S f.ind), .slice au' f.subs.length cu', .int .i64 f.auth] 49))
                   have hB := Lib.hid (HD8.out.alloc HD8.out.size (.cells #[.string (S f.tag), .string (S f.ind), .slice au' f.subs.length cu', .int .i64 f.auth] 49))
                   have hNw : RowKit.Hid (New wr.heap.size (QL (.slice au' f.subs.length cu') f.subs) (W8.alloc (.cells #[.string (S f.tag), .string (S f.ind), .slice au' f.subs.length cu', .int .i64 f.auth] 49))) := HN8.out.after ((Below.refl _ _).alloc (Nat.le_refl _) _)
                   clear HN8 HD8
                   go_wp2
                   go_meet
                   exact ⟨_, f, _, ok, rfl, rfl, hfin, hB, hNw, HC8⟩)
          case rest =>
            obtain ⟨gb, f, u, ok, rfl, rfl, HBx, HBl, HNw, HC⟩ := hcut
            have hRK := HK.out.after HBl.out
            have hBs := HK.out.size
            obtain ⟨us0, _, hown0, _⟩ := HK.out.row
            have hnx : NewX (w.heap.size + 2) (Value.slice ao n cp).ownBlock (QL u f.subs) wc := NewX.of HNw.out hBs (fun j hj => (hown0.lt j hj).2)
            obtain ⟨au', cu', hu, -, -⟩ := HNw.out.here.length
            subst hu
            obtain ⟨fl, hfl⟩ : ∃ x, f.subs.length = x := ⟨_, rfl⟩
            clear HK HBl HNw hown0 cF v1 v2 v3 o1 o2 o3 o4 o5 o6 o7 o8 o9 hx1 hx2 u1 u2 u3 hw1 hw2
            cases ok with
            | false =>
              have HN : RowKit.Hid (recG l = none) := by
                unfold RowKit.Hid
                rcases HC.out with h | h
                · cases h.2
                · rw [HR2.out, HD.out, HBf.out h.1]
                  rfl
              have HK := Lib.hid hRK
              obtain ⟨⟨⟨f0, f1, f2, f3, f4⟩, z0, z1, z2, z3, z4⟩, ⟨r0, r1, r2, r3, r4⟩, y0, y1, y2, y3, y4⟩ := HK.out.cells
              obtain ⟨hfin, hnew, hexc⟩ := HK.out.ret
              have hgne : (w.heap.size : Nat) ≠ w.heap.size + 1 := by omega
              unfold setR5 at hfin hnew hexc
              clear HK HD hRK hnx HBf HGf HC HBx
              go_wp2
              refine bodyPost_ret (results_row_tmp10 rfl _ _ w.heap.size _ _ _ _ rfl hfin.out Tryd.underlying24 rfl (by kernel_rfl)) rfl ?_
              exact HQ.out _ _ ⟨⟨id, ver, kd, ll, F⟩, _, false, by unfold RV; rw [HLs.out]; rfl, hexc.out, hnew.out, .inr ⟨HN.out, rfl⟩⟩
            | true =>
              have hfg : fldG tg bb = some f := by
                rcases HC.out with h | h
                · exact h.1
                · cases h.2
              have HD2 : RowKit.Hid (dirG l bn 24 = (dirG l bn (k + 12)).map ((F ++ [f]) ++ ·)) := by
                unfold RowKit.Hid
                rw [HD.out, HGf.out f hfg]
                cases dirG l bn (k + 12) <;> simp
              obtain ⟨⟨x0, x1, x2, x3⟩, -⟩ := fcells HBx.out
              have hRK3 := hRK.after ((Below.refl wc.heap.size wc).alloc (Nat.le_refl _) (.cells (encF f (.slice au' f.subs.length cu')).toArray 49))
              have hnx3 := hnx.on (w' := wc.alloc (.cells (encF f (.slice au' f.subs.length cu')).toArray 49)) (by simp) (fun i _ hi _ => Below.heap_alloc _ _ _ hi)
              obtain ⟨xs, hxs, hpush⟩ := hRK3.row.open
              have HPush := Lib.hid (fun v' w' => hpush f (.slice au' f.subs.length cu') v' w' hnx3)
              rw [hFn] at hxs
              have HXs := Lib.hid hxs
              have HRK3 := Lib.hid hRK3
              obtain ⟨fi0, hfi, hfz0, hfz1, hfz2⟩ := info_fld
              have HFI := Lib.hid hfi
              have HFZ0 := Lib.hid hfz0
              have HFZ1 := Lib.hid hfz1
              have HFZ2 := Lib.hid hfz2
              have hone : ∀ x ∈ encF f (.slice au' f.subs.length cu'), x.oneCell' = true := by
                intro x hx
                simp only [encF, List.mem_cons, List.not_mem_nil, or_false] at hx
                rcases hx with rfl | rfl | rfl | rfl <;> rfl
              have HOne := Lib.hid hone
              obtain ⟨⟨⟨f0, f1, f2, f3, f4⟩, z0, z1, z2, z3, z4⟩, -⟩ := hRK.cells
              have hszw : w.heap.size + 2 ≤ wc.heap.size := hRK.size
              have hn6 : n + 1 ≤ 1000000 := by omega
              clear hfg hRK hnx hRK3 hnx3 hxs hpush hfi hfz0 hfz1 hfz2 hone HD HBf HGf HC HBx hfl
              go_wp2_with (at_builtin; go_loud (refine wpList_append_two _ rfl _ _ 22 rfl (w.heap.size + 2) 49 fi0 (.agg #[.string ⟨#[]⟩, .string ⟨#[]⟩, .slice none 0 0, .int .i64 0]) 4 64 Tryd.underlying22 HFI.out HFZ0.out HFZ1.out HFZ2.out rfl (by decide) _ _ _ rfl HXs.out ⟨wc.heap.size, 0, none⟩ 1 1 (encF f (.slice au' f.subs.length cu')) rfl rfl (cells_four _ _ _ _ _ _) HOne.out (by decide) (by unfold maxLen; omega) (by omega) (by simp; omega) ?_))
              intro fv2 w3 hown3 hg3 hnn3 hob3
              have hFN := HPush.out fv2 w3 hg3 (by rw [show (wc.alloc (.cells (encF f (.slice au' f.subs.length cu')).toArray 49)).heap.size = wc.heap.size + 1 by simp]; exact hob3) (by rw [hFn]; exact hown3)
              obtain ⟨hK4, hf4⟩ := HRK3.out.push (f := f) hg3 hFN
              obtain ⟨⟨g0, g1, g2, g3, g4⟩, s0, s1, s2, s3, s4⟩ := rcells hf4
              have HK4 := Lib.hid hK4
              obtain ⟨ao2, cp2, rfl⟩ := own_form hown3
              clear hFN hown3 hg3 hnn3 hob3 hK4 hf4 HPush HXs HOne HRK3 x0 x1 x2 x3 f0 f1 f2 f3 f4 z0 z1 z2 z3 z4
              go_wp2
              go_roundw
              case rel => exact ⟨k + 12, n + 1, F ++ [f], _, _, by go_num, by omega, by omega, by rw [List.length_append, hFn]; rfl, by omega, HD2, HK4⟩
              case measure => simp [intOf]; omega
end

end Go.Proofs.YtiledacfdaenbaaDoor

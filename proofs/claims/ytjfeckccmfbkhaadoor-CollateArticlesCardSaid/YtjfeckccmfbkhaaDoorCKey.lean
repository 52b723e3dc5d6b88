/- The program's join, Key, entryOf, compare of entries, and Compare. -/
import Derived.Test.YtjfeckccmfbkhaaDoorShelfB
import Derived.Test.YtjfeckccmfbkhaaDoorCRepl
import Derived.Test.YtjfeckccmfbkhaaDoorTFold
import Derived.Test.YtjfeckccmfbkhaaDoorPlainK
import Derived.Test.YtjfeckccmfbkhaaDoorOrd
import Derived.Shelf.GgClosure.GivesRunes
import Derived.Shelf.SlSortCmp.Insertion
namespace Go.Proofs.YtjfeckccmfbkhaaDoor
open Go.RowKit Go.Sort

/-- What strings.FieldsFunc asks of the separators. -/
theorem unsorted_pred (w : World) : PredAtRunes Tryd.prog 56 #[] (fun c => !keyc c) w := by
  intro W x _ _
  exact (unsorted_any x _ rfl W).mono fun e w' ⟨h1, h2⟩ => ⟨h1, 0, h2.symm⟩

theorem fields_any (fs : List Nat) (h : OKs fs) (hz : fs.length ≤ 400000) (w : World) :
    Calls Tryd.prog 55 #[.string (T fs), .func (.func 56) #[] #[]] w fun e w' => ∃ A, e = .returned (.slice (some ⟨A, 0, none⟩) (kwords fs).length (kwords fs).length) ∧ A < w'.heap.size ∧
      (∀ (j : Nat) x, ((kwords fs).map T)[j]? = some x → w'.cell? ⟨A, 0 + j, none⟩ = some (.string x)) ∧ Below w.heap.size w w' := by
  have hsz := T_bound fs
  have hF := Tryd.strings_FieldsFunc_runes 56 #[] (enters_of Tryd.func56 (by kernel_rfl) rfl) (fun c => !keyc c) (T fs) w (by omega) (unsorted_pred w)
  rw [fields_T fs h (fun c => !keyc c) (fun c _ => rfl)] at hF
  refine hF.mono ?_
  rintro e w' ⟨A, rfl, hA, hown, hb⟩
  rw [List.length_map] at hown ⊢
  refine ⟨A, rfl, ?_, ?_, hb⟩
  · rcases hown.2 with ⟨h0, _⟩ | ⟨g, cap, cur, hv, _, hg, _⟩
    · cases h0
    · have e1 : A = g := by have h := hv; simp at h; exact h.1
      subst e1
      exact (Array.getElem?_eq_some_iff.1 hg).1
  · intro j x hj
    have := hown.cells (g := A) rfl j (.string x) (by rw [List.getElem?_map, hj]; rfl)
    have hadd : (⟨A, 0, none⟩ : Addr).add j = ⟨A, 0 + j, none⟩ := by rw [Nat.zero_add]; unfold Addr.add; split <;> simp_all
    rwa [hadd] at this

theorem kjoin (fs : List Nat) : (⟨(Lib.join (((kwords fs).map T).map (·.data.toList)) [32]).toArray⟩ : ByteArray) = T (keyRun fs).1 := by
  rw [List.map_map]
  have e : (kwords fs).map ((fun x : ByteArray => x.data.toList) ∘ T) = (kwords fs).map enc := by
    apply List.map_congr_left
    intro x _
    exact T_list x
  rw [e, join_T, ← key_words]
  rfl

set_option maxHeartbeats 4000000 in
theorem cjoin_any (fs : List Nat) (h : OKs fs) (hz : fs.length ≤ 400000) (t : ByteArray) (ht : T (keyRun fs).1 = t) (w : World) :
    Calls Tryd.prog 34 #[.string (T fs)] w fun e w' => e = .returned (.string t) ∧ Below w.heap.size w w' := by
  have hF := Lib.hid (fields_any fs h hz w)
  have hJ : ∀ (A : Nat) (w1 : World), A < w1.heap.size → (∀ (j : Nat) x, ((kwords fs).map T)[j]? = some x → w1.cell? ⟨A, 0 + j, none⟩ = some (.string x)) →
      Calls Tryd.prog 54 #[.slice (some ⟨A, 0, none⟩) (kwords fs).length (kwords fs).length, .string ⟨#[32]⟩] w1 fun e w' => e = .returned (.string t) ∧ Below w1.heap.size w1 w' := by
    intro A w1 h1 h2
    have := Tryd.strings_Join A 0 (kwords fs).length ((kwords fs).map T) ⟨#[32]⟩ w1 h2 h1
      (by have := kwords_len fs; rw [List.length_map]; omega) (by rw [List.length_map]; exact Nat.le_refl _)
      (by
        have hk := congrArg ByteArray.size (kjoin fs)
        have h1 := T_bound (keyRun fs).1
        have h2 := keyRun_len fs
        have e1 : ((⟨(Lib.join (((kwords fs).map T).map (·.data.toList)) [32]).toArray⟩ : ByteArray)).size = (Lib.join (((kwords fs).map T).map (·.data.toList)) [32]).length := by simp [ByteArray.size]
        rw [e1] at hk
        show (Lib.join (((kwords fs).map T).map (·.data.toList)) [32]).length ≤ _
        omega)
    rw [List.length_map] at this
    refine this.mono fun e w' ⟨h1, h2⟩ => ⟨?_, h2⟩
    rw [h1]
    exact congrArg (fun x => Ending.returned (Value.string x)) ((kjoin fs).trans ht)
  have HJ := Lib.hid hJ
  clear hJ ht
  go_enter Tryd.func34, Tryd.ntmps34
  go_wp2_with fail
  refine hF.out.mono ?_
  rintro e w1 ⟨A, rfl, hA, hc, b1⟩
  have HJ2 := Lib.hid (HJ.out A w1 hA hc)
  clear HJ hc
  go_wp2_with fail
  refine HJ2.out.mono ?_
  rintro e w2 ⟨rfl, b2⟩
  have b3 := b1.trans (b2.mono b1.size)
  go_wp2
  go_ret
  exact ⟨rfl, b3⟩

set_option maxHeartbeats 4000000 in
theorem ckey_any (lang : ByteArray) (cs : List Nat) (h : OKs cs) (s t : ByteArray) (hs : s = T cs) (hz : cs.length ≤ 100000) (ht : T (keyL lang cs) = t) (w : World) (hE : Acc w) :
    Calls Tryd.prog 17 #[.string lang, .string s] w fun e w' => e = .returned (.string t) ∧ Below w.heap.size w w' := by
  have hrl := repL_len lang cs
  have hfl := fold_len (repL lang cs)
  have c1 := Lib.hid (fun W => replace_any lang cs h s hs hz W)
  have c2 := Lib.hid (fun W => fold_any (repL lang cs) (repL_OK lang cs h) _ rfl (by omega) W)
  have c3 := Lib.hid (fun W => cjoin_any (foldL (repL lang cs)) (fold_OK _ (repL_OK lang cs h)) (by omega) t ht W)
  have HE := Lib.hid hE
  clear h hs hz ht hrl hfl hE
  go_enter Tryd.func17, Tryd.ntmps17
  go_wp2_with fail
  refine (c1.out _).mono ?_
  rintro e w1 ⟨rfl, b1⟩
  have HE1 := Lib.hid (HE.out.after b1)
  go_wp2_with fail
  refine (c2.out _ HE1.out).mono ?_
  rintro e w2 ⟨rfl, b2'⟩
  have b2 := b1.trans (b2'.mono b1.size)
  clear b2' b1
  go_wp2_with fail
  refine (c3.out _).mono ?_
  rintro e w3 ⟨rfl, b3'⟩
  have b3 := b2.trans (b3'.mono b2.size)
  clear b3' b2
  go_wp2
  go_ret
  exact ⟨rfl, b3⟩

set_option maxHeartbeats 4000000 in
theorem entry_any (lang : ByteArray) (cs : List Nat) (h : OKs cs) (s t : ByteArray) (hs : s = T cs) (hz : cs.length ≤ 100000) (ht : T (keyL lang cs) = t) (w : World) (hE : Acc w) :
    Calls Tryd.prog 38 #[.string lang, .string s] w fun e w' => e = .returned (.agg #[.string t, .string s]) ∧ Below w.heap.size w w' := by
  have c1 := Lib.hid (fun W hE => ckey_any lang cs h s t hs hz ht W hE)
  have HE := Lib.hid hE
  clear h hs hz ht hE
  go_enter Tryd.func38, Tryd.ntmps38
  go_wp2_with fail
  refine (c1.out _ (HE.out.after ((Below.refl _ w).alloc (Nat.le_refl _) _))).mono ?_
  rintro e w1 ⟨rfl, b1⟩
  have hb : Below w.heap.size w w1 := ((Below.refl _ w).alloc (Nat.le_refl _) _).trans (b1.mono (by simp))
  have hcell : w1.heap[w.heap.size]? = some (.cells #[.string ⟨#[]⟩, .string ⟨#[]⟩] 47 (0, 0)) := by
    rw [b1.block w.heap.size (by simp)]
    exact heap_alloc_new w _
  have k0 : w1.cell? ⟨w.heap.size, 0, none⟩ = some (.string ⟨#[]⟩) := by rw [Lib.cell_of_heap hcell]; rfl
  have k1 : w1.cell? ⟨w.heap.size, 1, none⟩ = some (.string ⟨#[]⟩) := by rw [Lib.cell_of_heap hcell]; rfl
  have f0 := Lib.frozen_of_heap hcell 0
  have f1 := Lib.frozen_of_heap hcell 1
  have hfin : ((w1.setCell ⟨w.heap.size, 0, none⟩ (.string t)).setCell ⟨w.heap.size, 1, none⟩ (.string s)).heap[w.heap.size]? = some (.cells #[.string t, .string s] 47 (0, 0)) := by
    simp [World.setCell, Array.getElem?_modify, hcell]
  have hb2 := (hb.setCell (p := ⟨w.heap.size, 0, none⟩) (Nat.le_refl _) (.string t)).setCell (p := ⟨w.heap.size, 1, none⟩) (Nat.le_refl _) (.string s)
  have HFin := Lib.hid hfin
  have Hb2 := Lib.hid hb2
  clear hcell hfin hb2 hb b1
  go_wp2
  (try simp only [Exit.inBlock, Exit.then])
  refine bodyPost_ret (results_cell_row rfl _ _ w.heap.size _ _ _ _ rfl HFin.out Tryd.underlying47 rfl (by kernel_rfl)) rfl ?_
  exact ⟨rfl, Hb2.out⟩

/-- An entry's two cells. -/
def encE (x : ByteArray × ByteArray) : List Value := [.string x.1, .string x.2]

set_option maxHeartbeats 4000000 in
theorem compare_any (x y : ByteArray × ByteArray) (W : World) :
    Calls Tryd.prog 39 #[.agg #[.string x.1, .string x.2], .agg #[.string y.1, .string y.2]] W fun e w' => e = .returned (.int .i64 (cmpE x y)) ∧ ∃ q os', w' = grow (W.drewN q) os' := by
  obtain ⟨k1, s1⟩ := x
  obtain ⟨k2, s2⟩ := y
  have hc1 := fun W' => Tryd.strings_Compare k1 k2 W'
  have hc2 := fun W' => Tryd.strings_Compare s1 s2 W'
  have hR : cmpE (k1, s1) (k2, s2) = if Lib.compareBytes k1.data.toList k2.data.toList = 0 then Lib.compareBytes s1.data.toList s2.data.toList else Lib.compareBytes k1.data.toList k2.data.toList := rfl
  rw [hR]
  clear hR
  simp only
  generalize Lib.compareBytes k1.data.toList k2.data.toList = r1 at hc1 ⊢
  generalize Lib.compareBytes s1.data.toList s2.data.toList = r2 at hc2 ⊢
  have H1 := Lib.hid hc1
  have H2 := Lib.hid hc2
  clear hc1 hc2
  by_cases h0 : r1 = 0
  · subst h0
    rw [if_pos rfl]
    go_enter Tryd.func39, Tryd.ntmps39
    go_wp2_with fail
    refine (H1.out _).mono ?_
    rintro e w1 ⟨rfl, rfl⟩
    go_wp2_with fail
    refine (H2.out _).mono ?_
    rintro e w2 ⟨rfl, rfl⟩
    go_wp2
    go_ret
    exact ⟨rfl, 0, _, by rw [alloc_eq_grow, alloc_eq_grow, grow_grow]; rfl⟩
  · rw [if_neg h0]
    have h1 : (r1 == 0) = false := by simpa using h0
    clear h0
    go_enter Tryd.func39, Tryd.ntmps39
    go_wp2_with fail
    refine (H1.out _).mono ?_
    rintro e w1 ⟨rfl, rfl⟩
    go_wp2
    go_ret
    exact ⟨rfl, 0, _, by rw [alloc_eq_grow, alloc_eq_grow, grow_grow]; rfl⟩

theorem grow_below (W : World) (q : Nat) (os : Array Obj) : Below W.heap.size W (grow (W.drewN q) os) := by
  have h0 : (W.drewN q).heap = W.heap := rfl
  refine ⟨rfl, rfl, rfl, ?_, fun k hk => ?_⟩
  · show W.heap.size ≤ ((W.drewN q).heap ++ os).size
    rw [h0, Array.size_append]
    omega
  · show ((W.drewN q).heap ++ os)[k]? = W.heap[k]?
    rw [h0, Array.getElem?_append_left hk]

set_option maxHeartbeats 4000000 in
theorem ccompare_any (lang : ByteArray) (ca cb : List Nat) (ha : OKs ca) (hb : OKs cb) (hza : ca.length ≤ 100000) (hzb : cb.length ≤ 100000) (a b : ByteArray) (ea : a = T ca) (eb : b = T cb) (r : Int) (hr : cmpE (ent lang ca) (ent lang cb) = r) (w : World) (hE : Acc w) :
    Calls Tryd.prog 19 #[.string lang, .string a, .string b] w fun e w' => e = .returned (.int .i64 r) ∧ Below w.heap.size w w' := by
  subst ea eb hr
  have c1 := Lib.hid (fun W hE => entry_any lang ca ha (T ca) (T (keyL lang ca)) rfl hza rfl W hE)
  have c2 := Lib.hid (fun W hE => entry_any lang cb hb (T cb) (T (keyL lang cb)) rfl hzb rfl W hE)
  have c3 := Lib.hid (fun W => compare_any (ent lang ca) (ent lang cb) W)
  have HE := Lib.hid hE
  clear ha hb hza hzb hE
  unfold ent at *
  simp only at c3
  generalize T (keyL lang ca) = k1 at c1 c3 ⊢
  generalize T (keyL lang cb) = k2 at c2 c3 ⊢
  generalize T ca = s1 at c1 c3 ⊢
  generalize T cb = s2 at c2 c3 ⊢
  generalize cmpE (k1, s1) (k2, s2) = r at c3 ⊢
  go_enter Tryd.func19, Tryd.ntmps19
  go_wp2_with fail
  refine (c1.out _ HE.out).mono ?_
  rintro e w1 ⟨rfl, b1⟩
  go_wp2_with fail
  refine (c2.out _ (HE.out.after b1)).mono ?_
  rintro e w2 ⟨rfl, b2'⟩
  have b2 := b1.trans (b2'.mono b1.size)
  clear b2' b1
  go_wp2_with fail
  refine (c3.out _).mono ?_
  rintro e w3 ⟨rfl, q, os, rfl⟩
  have b3 := b2.trans ((grow_below w2 q os).mono b2.size)
  clear b2
  go_wp2
  go_ret
  exact ⟨rfl, b3⟩
end Go.Proofs.YtjfeckccmfbkhaaDoor

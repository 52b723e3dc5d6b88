/- Merged: BuildS, FJ07, BX10. -/
import Derived.Test.YtnfallkeicehiaaDoorShelf
import Derived.Lib.FrozenHead2
import Derived.Lib.OthersKept
import Derived.Test.YtnfallkeicehiaaDoorQ01
import Derived.Lib.AppendStr
import Derived.WalkKit
import Derived.BigCall
import Derived.Test.YtnfallkeicehiaaDoorQ24
import Derived.Test.YtnfallkeicehiaaDoorQ14
import Derived.Test.YtnfallkeicehiaaDoorQ09
import Derived.Test.YtnfallkeicehiaaDoorQ21
import Derived.Lib.Builder
import Derived.Test.YtnfallkeicehiaaDoorQ17
import Derived.Lib.UnsafeStr
import Derived.RegionTactic
import Derived.BigRegion
namespace Go.Proofs.YtnfallkeicehiaaDoor

section
open Go.RowKit
theorem sizeB : (Tryd.prog.info? 50).map (·.size) = some 2 := by kernel_rfl
theorem liesB : liesAt Tryd.prog Tryd.prog.depth 50 (2 / Tryd.prog.cellsOf 50) 0 50 1 = true := by kernel_rfl
/-- A builder of this program: it lies in block b; its bytes are bs. -/
abbrev IsB (B b : Nat) (bs : List Value) (w : World) : Prop := Lib.IsBuilderF 50 5 B b bs w
abbrev UsedB (B b : Nat) (bs : List Value) (w : World) : Prop := Lib.BuilderAtF 50 5 B b (.pointer (some ⟨b, 0, none⟩)) bs w
abbrev Kept (b : Nat) (w w' : World) : Prop := Lib.OthersKept 5 (some b) w w'

set_option maxRecDepth 100000 in
set_option maxHeartbeats 1000000 in
theorem check_used (b : Nat) (w : World) (h0 : w.cell? ⟨b, 0, none⟩ = some (.pointer (some ⟨b, 0, none⟩))) :
    Calls Tryd.prog 27 #[.pointer (some ⟨b, 0, none⟩)] w fun e w' => e = .returned (.tuple #[]) ∧ w = w' := by
  obtain ⟨j, hj, _⟩ := Option.map_eq_some_iff.1 sizeB
  go_enter Tryd.func27, Tryd.ntmps27
  go_wp2
  rw [Lib.run_neq_ptr_same w _ Tryd.underlying47 hj]
  go_wp2
  go_end0
  exact ⟨rfl, rfl⟩

set_option maxRecDepth 100000 in
set_option maxHeartbeats 1000000 in
theorem check_fresh (b : Nat) (w : World) (h0 : w.cell? ⟨b, 0, none⟩ = some (.pointer none)) (hsh : w.shape? b = some (50, 2)) (hfz : w.frozen? ⟨b, 0, none⟩ = false) :
    Calls Tryd.prog 27 #[.pointer (some ⟨b, 0, none⟩)] w fun e w' => e = .returned (.tuple #[]) ∧ w.setCell ⟨b, 0, none⟩ (.pointer (some ⟨b, 0, none⟩)) = w' := by
  obtain ⟨j, hj, hjs⟩ := Option.map_eq_some_iff.1 sizeB
  go_enter Tryd.func27, Tryd.ntmps27
  go_wp2
  rw [Lib.run_to_unsafe w ⟨b, 0, none⟩ Tryd.underlying47 Tryd.underlying81 hj (by rw [hjs]; decide) hsh (Nat.zero_lt_succ 1)]
  simp only [Result.andThen]
  rw [Oper.upon_value]
  go_wp2
  rw [run_callFunc_extern Tryd.func37 (by kernel_rfl) (by kernel_rfl) (by kernel_rfl) (e := Extern.AbiNoEscape.same) (by kernel_rfl)]
  rw [Lib.run_noEscape]
  simp only [Result.andThen]
  rw [Oper.upon_value]
  go_wp2
  rw [Lib.run_from_unsafe w ⟨b, 0, none⟩ Tryd.underlying81 Tryd.underlying47 hj hsh liesB]
  simp only [Result.andThen]
  rw [Oper.upon_value]
  go_wp2
  go_end0
  exact ⟨rfl, rfl⟩

theorem check_any (B b : Nat) (bs : List Value) (w : World) (h : IsB B b bs w) :
    Calls Tryd.prog 27 #[.pointer (some ⟨b, 0, none⟩)] w fun e w' => e = .returned (.tuple #[]) ∧ UsedB B b bs w' ∧ Below B w w' ∧ Kept b w w' := by
  rcases h with h | h
  · refine (check_fresh b w h.cell0 h.shape h.frozen0).mono ?_
    rintro e w' ⟨rfl, rfl⟩
    exact ⟨rfl, h.used _, (Below.refl B w).setCell (p := ⟨b, 0, none⟩) h.1 _, (Lib.OthersKept.refl _ _ w).setCell ⟨b, 0, none⟩ rfl _⟩
  · refine (check_used b w h.cell0).mono ?_
    rintro e w' ⟨rfl, rfl⟩
    exact ⟨rfl, h, Below.refl B _, Lib.OthersKept.refl _ _ _⟩

set_option maxRecDepth 100000 in
set_option maxHeartbeats 2000000 in
theorem writeByte_any (B b : Nat) (bs : List Value) (c : Int) (w : World) (h : IsB B b bs w) (hlen : bs.length + 1 ≤ 140737488355328) (hBw : B ≤ w.heap.size) :
    Calls Tryd.prog 30 #[.pointer (some ⟨b, 0, none⟩), .int .u8 c] w fun e w' => e = .returned .nilIface ∧ UsedB B b (bs ++ [.int .u8 c]) w' ∧ Below B w w' ∧ Kept b w w' := by
  obtain ⟨i0, hi, hz0, hz1, hz2⟩ := info_parts infoByte
  go_enter Tryd.func30, Tryd.ntmps30
  go_wp2_with (go_at_call 27; refine (check_any B b bs _ h).mono ?_)
  rintro e w1 ⟨rfl, h1, hb1, hk1⟩
  obtain ⟨hB, v, hbk, hown, hne⟩ := h1
  have c0 : w1.cell? ⟨b, 0, none⟩ = some (.pointer (some ⟨b, 0, none⟩)) := by rw [Lib.cell_of_heap hbk]; rfl
  have c1 : w1.cell? ⟨b, 1, none⟩ = some v := by rw [Lib.cell_of_heap hbk]; rfl
  go_wp2_with (at_builtin; refine wpList_append_ownF _ rfl _ _ 48 rfl B 5 i0 (.int .u8 0) 1 1 Tryd.underlying48 hi hz0 hz1 hz2 rfl (by decide) _ _ _ rfl (hown.alloc _) ⟨w1.heap.size, 0, none⟩ 1 1 [.int .u8 c] rfl rfl ?c1 ?c2 ?c3 ?c4 ?c5 ?_)
  case c1 =>
    intro j u hj
    match j, hj with
    | 0, hj => simp at hj; subst hj; simp [Addr.add]
  case c2 => intro u hu; simp at hu; subst hu; rfl
  case c3 => unfold maxLen; omega
  case c4 => omega
  case c5 => have := hb1.size; simp; omega
  intro v' w2 hown' hgrow _
  have hlt : b < w1.heap.size := (Array.getElem?_eq_some_iff.1 hbk).1
  have hb2 : w2.heap[b]? = some (.cells #[.pointer (some ⟨b, 0, none⟩), v] 50 (0, 0)) := by
    rw [hgrow.block b (by simp; omega) (fun e => hne e.symm), Lib.alloc_old w1 _ b hlt]
    exact hbk
  have d0 : w2.cell? ⟨b, 0, none⟩ = some (.pointer (some ⟨b, 0, none⟩)) := by rw [Lib.cell_of_heap hb2]; rfl
  have d1 : w2.cell? ⟨b, 1, none⟩ = some v := by rw [Lib.cell_of_heap hb2]; rfl
  have f1 : w2.frozen? ⟨b, 1, none⟩ = false := Lib.frozen_of_heap hb2 1
  obtain ⟨g, cap, rfl⟩ : ∃ g cap, v' = .slice (some ⟨g, 0, none⟩) (bs.length + 1) cap := by
    rcases hown'.2 with ⟨_, h0⟩ | ⟨g, cap, cur, fz, hv, _⟩
    · omega
    · exact ⟨g, cap, hv⟩
  go_wp2
  go_ret
  refine ⟨rfl, ?_, ?_, ((hk1.alloc _).grown hgrow (Lib.ownsRowF_kind (hown.alloc _))).setCell ⟨b, 1, none⟩ rfl _⟩
  · exact Lib.BuilderAtF.put (T := 50) (e := 5) hB hb2 (bs' := bs ++ [.int .u8 c]) (by simpa using hown') (by decide)
  · exact ((hb1.alloc (by have := hb1.size; omega) _).grown hgrow (by have := hb1.size; simp; omega) (fun k hk => (hown.lt k hk).1)).setCell (p := ⟨b, 1, none⟩) hB _

set_option maxRecDepth 100000 in
set_option maxHeartbeats 2000000 in
theorem writeString_any (B b : Nat) (bs : List Value) (s : ByteArray) (w : World) (h : IsB B b bs w) (hlen : bs.length + s.size ≤ 140737488355328) (hBw : B ≤ w.heap.size) :
    Calls Tryd.prog 17 #[.pointer (some ⟨b, 0, none⟩), .string s] w fun e w' => e = .returned (.tuple #[.int .i64 s.size, .nilIface]) ∧ UsedB B b (bs ++ Lib.strCells s) w' ∧ Below B w w' ∧ Kept b w w' := by
  obtain ⟨i0, hi, hz0, hz1, hz2⟩ := info_parts infoByte
  go_enter Tryd.func17, Tryd.ntmps17
  go_wp2_with (go_at_call 27; refine (check_any B b bs _ h).mono ?_)
  rintro e w1 ⟨rfl, h1, hb1, hk1⟩
  obtain ⟨hB, v, hbk, hown, hne⟩ := h1
  have c0 : w1.cell? ⟨b, 0, none⟩ = some (.pointer (some ⟨b, 0, none⟩)) := by rw [Lib.cell_of_heap hbk]; rfl
  have c1 : w1.cell? ⟨b, 1, none⟩ = some v := by rw [Lib.cell_of_heap hbk]; rfl
  go_wp2_with (at_builtin; refine Lib.wpList_append_own_stringF _ rfl _ _ 48 9 rfl B 5 i0 Tryd.underlying48 Tryd.underlying9 hi hz0 hz1 hz2 _ _ _ rfl hown s rfl ?c3 ?c4 ?c5 ?_)
  case c3 => unfold maxLen; omega
  case c4 => omega
  case c5 => have := hb1.size; omega
  intro v' w2 hown' hgrow _
  have hlt : b < w1.heap.size := (Array.getElem?_eq_some_iff.1 hbk).1
  have hb2 : w2.heap[b]? = some (.cells #[.pointer (some ⟨b, 0, none⟩), v] 50 (0, 0)) := by
    rw [hgrow.block b hlt (fun e => hne e.symm)]
    exact hbk
  have d0 : w2.cell? ⟨b, 0, none⟩ = some (.pointer (some ⟨b, 0, none⟩)) := by rw [Lib.cell_of_heap hb2]; rfl
  have d1 : w2.cell? ⟨b, 1, none⟩ = some v := by rw [Lib.cell_of_heap hb2]; rfl
  have f1 : w2.frozen? ⟨b, 1, none⟩ = false := Lib.frozen_of_heap hb2 1
  obtain ⟨ao, n', cap, rfl⟩ : ∃ ao n' cap, v' = .slice ao n' cap := by
    rcases hown'.2 with ⟨hv, _⟩ | ⟨g, cap, cur, fz, hv, _⟩
    · exact ⟨_, _, _, hv⟩
    · exact ⟨_, _, _, hv⟩
  go_wp2
  go_ret2
  refine ⟨rfl, ?_, ?_, (hk1.grown hgrow (Lib.ownsRowF_kind hown)).setCell ⟨b, 1, none⟩ rfl _⟩
  · exact Lib.BuilderAtF.put (T := 50) (e := 5) hB hb2 (bs' := bs ++ Lib.strCells s) (by simpa [Lib.strCells_length] using hown') (by decide)
  · exact (hb1.grown hgrow (by have := hb1.size; omega) (fun k hk => (hown.lt k hk).1)).setCell (p := ⟨b, 1, none⟩) hB _
end

section
open Go.RowKit Go.PlainAid
/-- A builder of this call, with these bytes. -/
def PB (B b : Nat) (l : List UInt8) (w : World) : Prop := IsB B b (Lib.byteCells l) w
theorem ownF_after {w w' : World} {B e size n : Nat} {v : Value} {xs : List Value} (h : w.ownsRowF B e size v n xs) (hb : Below w.heap.size w w') : w'.ownsRowF B e size v n xs := by
  refine ⟨h.1, ?_⟩
  rcases h.2 with hn | ⟨g, cap, cur, fz, hv, hB', hg, rest⟩
  · exact .inl hn
  · have hlt : g < w.heap.size := (Array.getElem?_eq_some_iff.1 hg).1
    exact .inr ⟨g, cap, cur, fz, hv, hB', (hb.block g hlt).trans hg, rest⟩
theorem BAF_after {B b : Nat} {p : Value} {bs : List Value} {w w' : World} (h : Lib.BuilderAtF 50 5 B b p bs w) (hb : Below w.heap.size w w') : Lib.BuilderAtF 50 5 B b p bs w' := by
  have hlt := h.lt
  obtain ⟨hB, v, hbk, hown, hne⟩ := h
  exact ⟨hB, v, (hb.block b hlt).trans hbk, ownF_after hown hb, hne⟩
theorem PB.after {B b : Nat} {l : List UInt8} {w w' : World} (h : PB B b l w) (hb : Below w.heap.size w w') : PB B b l w' := h.elim (fun x => .inl (BAF_after x hb)) (fun x => .inr (BAF_after x hb))
theorem PB.alloc {B b : Nat} {l : List UInt8} {w : World} (h : PB B b l w) (o : Obj) : PB B b l (w.alloc o) := Lib.IsBuilderF.alloc h o
theorem PB.lt {B b : Nat} {l : List UInt8} {w : World} (h : PB B b l w) : b < w.heap.size := h.elim (fun x => x.lt) (fun x => x.lt)
theorem bytes_append (a b : List UInt8) : Lib.byteCells a ++ Lib.strCells (S b) = Lib.byteCells (a ++ b) := by
  show Lib.byteCells a ++ Lib.byteCells b = _
  simp [Lib.byteCells]
theorem bytes_length (a : List UInt8) : (Lib.byteCells a).length = a.length := by simp [Lib.byteCells]
theorem pbStr (B b : Nat) (l x : List UInt8) (w : World) (h : PB B b l w) (hl : l.length + x.length ≤ 100000000) (hB : B ≤ w.heap.size) :
    Calls Tryd.prog 17 #[.pointer (some ⟨b, 0, none⟩), .string (S x)] w fun e w' => (∃ v, e = .returned v) ∧ PB B b (l ++ x) w' ∧ Below B w w' ∧ Kept b w w' :=
  (writeString_any B b (Lib.byteCells l) (S x) w h (by rw [bytes_length, S_size]; omega) hB).mono fun e w' hh => by
    obtain ⟨he, h1, h2, h3⟩ := hh
    refine ⟨⟨_, he⟩, ?_, h2, h3⟩
    rw [bytes_append] at h1
    exact .inr h1
theorem pbByte (B b : Nat) (l : List UInt8) (x : UInt8) (w : World) (h : PB B b l w) (hl : l.length ≤ 100000000) (hB : B ≤ w.heap.size) :
    Calls Tryd.prog 30 #[.pointer (some ⟨b, 0, none⟩), .int .u8 (x.toNat : Int)] w fun e w' => (∃ v, e = .returned v) ∧ PB B b (l ++ [x]) w' ∧ Below B w w' ∧ Kept b w w' :=
  (writeByte_any B b (Lib.byteCells l) (x.toNat : Int) w h (by rw [bytes_length]; omega) hB).mono fun e w' hh => by
    obtain ⟨he, h1, h2, h3⟩ := hh
    refine ⟨⟨_, he⟩, ?_, h2, h3⟩
    have e1 : Lib.byteCells l ++ [.int .u8 (x.toNat : Int)] = Lib.byteCells (l ++ [x]) := by simp [Lib.byteCells]
    rw [e1] at h1
    exact .inr h1
theorem pbOut (B b : Nat) (l : List UInt8) (w : World) (h : PB B b l w) (hB : B ≤ w.heap.size) :
    Calls Tryd.prog 20 #[.pointer (some ⟨b, 0, none⟩)] w fun e w' => e = .returned (.string (S l)) ∧ Below B w w' :=
  (Tryd.Builder_String_any_k B b l w h hB).mono fun _ _ hh => ⟨hh.1, hh.2.2.1⟩
theorem Kept.box {b k : Nat} {cs : Array Value} {w w' : World} (h : Kept b w w') (hk : w.heap[k]? = some (.cells cs 45 (0, 0))) (hne : k ≠ b) : w'.heap[k]? = some (.cells cs 45 (0, 0)) :=
  h k _ hk (fun e => hne (Option.some.inj e)) (fun c fz e => by
    simp only [Obj.cells.injEq] at e
    exact absurd e.2.1 (by decide))
theorem sub_mark2 (l : List UInt8) (h : l.length = 2) : subL 32 [35] l = markB (l.getD 0 0) ++ markB (l.getD 1 0) := by
  match l, h with
  | [a, b], _ => exact sub_mark a b
theorem mark_le (c : UInt8) : (markB c).length ≤ 1 := by
  unfold markB
  split <;> simp
theorem auth_form (n : Nat) : authP (n : Int) = if n = 0 then [] else 64 :: Lib.decDigits n := by
  unfold authP
  rw [Int.toNat_natCast]
  by_cases h : n = 0
  · rw [if_pos (by omega), if_pos h]
  · have hp := dec_pos n
    rw [if_neg (by omega), if_neg h]
    unfold padL
    rw [show 1 - (Lib.decDigits n).length = 0 by omega]
    rfl

set_option maxHeartbeats 16000000 in
set_option maxRecDepth 100000 in
theorem fPrint_ok (f : Fld) (u : Value) (w : World) (hE : Env w) (hu : QL u f.subs w) (h : rightI f = 0) :
    Calls Tryd.prog 19 #[FV f u] w fun e w' => e = .returned (.tuple #[.string (S (lineL f)), .int .i64 0]) ∧ Below w.heap.size w w' := by
  obtain ⟨htag, hind, hn1, hn16, hsub, ha0, ha1⟩ := right_facts f h
  have h200 : ∀ i, i < f.subs.length → (f.subs.getD i sub0).2.length ≤ 200 := fun i hi => (subE_zero _ (hsub i hi)).2.2.2
  have h3 := tagB_len _ htag
  have h2 := indsB_len _ hind
  have b0 : Below w.heap.size w (w.alloc (.cells #[.string (S f.tag), .string (S f.ind), u, .int .i64 f.auth] 43)) := (Below.refl w.heap.size w).alloc (Nat.le_refl _) _
  have cR := Lib.hid (fRight_any f u _ (hE.after b0) (hu.after b0) (fun i hi => by have := h200 i hi; omega) 0 h)
  obtain ⟨a, cap, rfl, hcap, hmax, _, hcell⟩ := hu
  unfold maxLen at hmax
  unfold FV at cR ⊢
  obtain ⟨n, hn⟩ : ∃ n, f.subs.length = n := ⟨_, rfl⟩
  have HCell := Lib.hid hcell
  have H200 := Lib.hid h200
  have hbl := Lib.hid (fun k => bodyL_le (f.subs.take k) (fun i hi => by
    rw [List.length_take] at hi
    have := h200 i (by omega)
    rwa [List.getD_eq_getElem?_getD, List.getElem?_take_of_lt (by omega), ← List.getD_eq_getElem?_getD]))
  rw [hn] at hcap hn16 cR b0 ⊢
  have HN := Lib.hid hn
  obtain ⟨W0, hW0⟩ : ∃ W0, w.alloc (.cells #[.string (S f.tag), .string (S f.ind), .slice a n cap, .int .i64 f.auth] 43) = W0 := ⟨_, rfl⟩
  rw [hW0] at b0 cR
  have hlt : w.heap.size < W0.heap.size := by rw [← hW0]; simp
  have k0 : W0.cell? ⟨w.heap.size, 0, none⟩ = some (.string (S f.tag)) := by rw [← hW0]; simp
  have k1 : W0.cell? ⟨w.heap.size, 1, none⟩ = some (.string (S f.ind)) := by rw [← hW0]; simp
  have k2 : W0.cell? ⟨w.heap.size, 2, none⟩ = some (.slice a n cap) := by rw [← hW0]; simp
  have k3 : W0.cell? ⟨w.heap.size, 3, none⟩ = some (.int .i64 f.auth) := by rw [← hW0]; simp
  have HE0 := Lib.hid (hE.after b0)
  have HW0 := Lib.hid hW0
  clear hcell h200 hn hsub h htag hind hW0 hE hn1
  obtain ⟨au, hau⟩ : ∃ k : Nat, f.auth = (k : Int) := ⟨f.auth.toNat, by omega⟩
  have HLine : RowKit.Hid (lineL f = (f.tag ++ authP f.auth) ++ (32 :: (subL 32 [35] f.ind ++ [32])) ++ bodyL f.subs) := by
    unfold RowKit.Hid lineL headL
    rw [sub_mark2 f.ind h2]
  have hil : (subL 32 [35] f.ind).length ≤ 2 := by
    rw [sub_mark2 f.ind h2, List.length_append]
    have m1 := mark_le (f.ind.getD 0 0)
    have m2 := mark_le (f.ind.getD 1 0)
    omega
  rw [hau] at k3 cR HW0 HLine ⊢
  have hau2 : au ≤ 9999 := by omega
  have hdl : (Lib.decDigits au).length ≤ 100000 := by
    have := dec_bound au
    omega
  have hapl : (authP (au : Int)).length ≤ 100001 := by
    rw [auth_form]
    split
    · simp
    · rw [List.length_cons]; omega
  have HAF := Lib.hid (auth_form au)
  have cI := Lib.hid (fun W hE => cItoa au (by omega) W hE)
  have cM := Lib.hid (fun W hE => cMark f.ind (by omega) W hE)
  clear hau ha0 ha1 h2
  obtain ⟨AP, hAP⟩ : ∃ AP, authP (au : Int) = AP := ⟨_, rfl⟩
  rw [hAP] at HLine HAF hapl
  obtain ⟨DD, hDD⟩ : ∃ DD, Lib.decDigits au = DD := ⟨_, rfl⟩
  rw [hDD] at HAF hdl cI
  obtain ⟨IM, hIM⟩ : ∃ IM, subL 32 [35] f.ind = IM := ⟨_, rfl⟩
  rw [hIM] at HLine hil cM
  clear hAP hDD hIM
  have hid := S_size IM
  have hdd := S_size DD
  have HAT := Lib.hid (S_append [64] DD)
  have HI1 := Lib.hid (S_append [32] IM)
  have HI2 := Lib.hid (S_append (32 :: IM) [32])
  go_enter Tryd.func19, Tryd.ntmps19
  go_wp2_with fail
  rw [HW0.out]
  refine (cR.out).mono ?_
  rintro e w1 ⟨rfl, b1⟩
  have j0 := (b1.cell (p := ⟨w.heap.size, 0, none⟩) hlt).trans k0
  have j1 := (b1.cell (p := ⟨w.heap.size, 1, none⟩) hlt).trans k1
  have j2 := (b1.cell (p := ⟨w.heap.size, 2, none⟩) hlt).trans k2
  have j3 := (b1.cell (p := ⟨w.heap.size, 3, none⟩) hlt).trans k3
  have hlt1 : w.heap.size < w1.heap.size := Nat.lt_of_lt_of_le hlt b1.size
  have B1 := Lib.hid (b0.trans (b1.mono b0.size))
  have HE1 := Lib.hid (HE0.out.after b1)
  clear k0 k1 k2 k3 b1 b0 HE0 cR
  have hpb : PB w1.heap.size w1.heap.size [] (w1.alloc (.cells #[.pointer none, .slice none 0 0] 50)) := Lib.IsBuilderF.of (Lib.fresh_isBuilder _ _ w1)
  have hba := (Below.refl w1.heap.size w1).alloc (Nat.le_refl _) (.cells #[.pointer none, .slice none 0 0] 50)
  have cS1 := Lib.hid (pbStr _ _ [] f.tag _ hpb (by rw [h3]; simp) hba.size)
  rw [List.nil_append] at cS1
  have Hba := Lib.hid hba
  have sba := hba.size
  clear hpb hba
  go_wp2_with fail
  refine cS1.out.mono ?_
  rintro e w2 ⟨⟨ev, rfl⟩, h2, b2, _⟩
  have B2 := Lib.hid (Hba.out.trans b2)
  have P2 := Lib.hid h2
  have s2 := Nat.le_trans sba b2.size
  have x0 := (B2.out.cell (p := ⟨w.heap.size, 0, none⟩) hlt1).trans j0
  have x1 := (B2.out.cell (p := ⟨w.heap.size, 1, none⟩) hlt1).trans j1
  have x2 := (B2.out.cell (p := ⟨w.heap.size, 2, none⟩) hlt1).trans j2
  have x3 := (B2.out.cell (p := ⟨w.heap.size, 3, none⟩) hlt1).trans j3
  clear h2 b2 Hba cS1
  go_upto_if 18 with fail
  go_cut [18] from 19 to 23 (fun q wx => (∃ x, q = .bool x) ∧ PB w1.heap.size w1.heap.size (f.tag ++ AP) wx ∧ Below w1.heap.size w1 wx)
  case first =>
    by_cases h0 : au = 0
    · have t0 : ((au : Int) != 0) = false := by rw [h0]; rfl
      have hp := P2.out
      have ha := HAF.out
      rw [if_pos h0] at ha
      rw [← List.append_nil f.tag, ← ha] at hp
      have Hp := Lib.hid hp
      clear h0 hp ha cI
      go_wp2
      go_meet
      exact ⟨⟨_, rfl⟩, Hp.out, B2.out⟩
    · have t0 : ((au : Int) != 0) = true := by simp; omega
      have ha := HAF.out
      rw [if_neg h0] at ha
      have HA := Lib.hid ha
      have cI2 := Lib.hid (cI.out w2 (HE1.out.after B2.out))
      clear h0 ha cI
      go_wp2_with fail
      refine cI2.out.mono ?_
      rintro e w3 ⟨rfl, b3⟩
      have P3 := Lib.hid (P2.out.after b3)
      have B3 := Lib.hid (B2.out.trans (b3.mono s2))
      have s3 := Nat.le_trans s2 b3.size
      have cS2 := Lib.hid (pbStr _ _ f.tag AP _ P3.out (by rw [h3]; omega) s3)
      rw [HA.out] at cS2
      rw [show S (64 :: DD) = ⟨#[64]⟩ ++ S DD from HAT.out.symm] at cS2
      clear b3
      have hsz1 : (⟨#[64]⟩ : ByteArray).size = 1 := rfl
      go_wp2_with fail
      refine cS2.out.mono ?_
      rintro e w4 ⟨⟨ev4, rfl⟩, h4, b4, _⟩
      have P4 := Lib.hid h4
      have B4 := Lib.hid (B3.out.trans b4)
      clear h4 b4
      go_wp2
      go_meet
      exact ⟨⟨_, rfl⟩, by rw [HA.out]; exact P4.out, B4.out⟩
  case rest =>
    obtain ⟨⟨q, rfl⟩, hp, hb⟩ := hcut
    clear x0 x1 x2 x3 P2 B2 s2 cI HAF
    have y1 := (hb.cell (p := ⟨w.heap.size, 1, none⟩) hlt1).trans j1
    have y2 := (hb.cell (p := ⟨w.heap.size, 2, none⟩) hlt1).trans j2
    have cM2 := Lib.hid (cM.out wc (HE1.out.after hb))
    have P3 := Lib.hid hp
    have B3 := Lib.hid hb
    have s3 := hb.size
    clear hp hb cM
    go_wp2_with fail
    refine cM2.out.mono ?_
    rintro e w4 ⟨rfl, b4⟩
    have P4 := Lib.hid (P3.out.after b4)
    have B4 := Lib.hid (B3.out.trans (b4.mono s3))
    have s4 := Nat.le_trans s3 b4.size
    have cS := Lib.hid (pbStr _ _ (f.tag ++ AP) (32 :: IM ++ [32]) _ P4.out (by simp only [List.length_append, List.length_cons, List.length_nil]; omega) s4)
    rw [show S (32 :: IM ++ [32]) = ⟨#[32]⟩ ++ S IM ++ ⟨#[32]⟩ by rw [← HI2.out]; exact congrArg (· ++ (⟨#[32]⟩ : ByteArray)) HI1.out.symm] at cS
    have z2 := (B4.out.cell (p := ⟨w.heap.size, 2, none⟩) hlt1).trans j2
    have e1 : (⟨#[32]⟩ : ByteArray).size = 1 := rfl
    have e2 : (⟨#[32]⟩ ++ S IM : ByteArray).size = 1 + IM.length := by rw [ByteArray.size_append, e1, hid]
    clear b4 cM2 P3 B3 s3 y1 y2
    go_wp2_with fail
    refine cS.out.mono ?_
    rintro e w5 ⟨⟨ev5, rfl⟩, h5, b5, _⟩
    have P5 := Lib.hid h5
    have B5 := Lib.hid (B4.out.trans b5)
    have s5 := Nat.le_trans s4 b5.size
    have v2 := (B5.out.cell (p := ⟨w.heap.size, 2, none⟩) hlt1).trans j2
    clear h5 b5 cS P4 B4 s4 z2 e1 e2 j0 j1 j3
    obtain ⟨HD, hHD⟩ : ∃ HD, f.tag ++ AP ++ (32 :: IM ++ [32]) = HD := ⟨_, rfl⟩
    have hHDl : HD.length ≤ 200000 := by rw [← hHD]; simp only [List.length_append, List.length_cons, List.length_nil]; omega
    rw [hHD] at P5
    have hL : RowKit.Hid (lineL f = HD ++ bodyL f.subs) := by
      unfold RowKit.Hid
      rw [HLine.out, ← hHD]
      rfl
    clear hHD HLine hil hdl hapl hid hdd HAT HI1 HI2 hau2 h3
    go_wp2
    go_loopw [33] (fun i wr => ∃ k : Nat, k ≤ n ∧ i = .int .i64 (k : Int) ∧ PB w1.heap.size w1.heap.size (HD ++ bodyL (f.subs.take k)) wr ∧ Below w1.heap.size w1 wr) (fun i _ => n - (intOf i).toNat)
    case atStart => exact ⟨0, Nat.zero_le _, rfl, by rw [List.take_zero]; show PB _ _ (HD ++ []) _; rw [List.append_nil]; exact P5.out, B5.out⟩
    case round =>
      obtain ⟨k, hk, rfl, hp, hb⟩ := hrel
      have hsz := hb.size
      by_cases hkn : k < n
      · obtain ⟨g, o, rfl, hg, c1, c2⟩ := HCell.out k (by rw [HN.out]; exact hkn)
        have hg1 : g < w1.heap.size := Nat.lt_of_lt_of_le hg B1.out.size
        have c1 : wr.cell? ⟨g, o + k * 2, none⟩ = some (.int .u8 ((f.subs.getD k sub0).1.toNat : Int)) := ((hb.cell (p := ⟨g, o + k * 2, none⟩) hg1).trans (B1.out.cell (p := ⟨g, o + k * 2, none⟩) hg)).trans c1
        have c2 : wr.cell? ⟨g, o + k * 2 + 1, none⟩ = some (.string (S (f.subs.getD k sub0).2)) := ((hb.cell (p := ⟨g, o + k * 2 + 1, none⟩) hg1).trans (B1.out.cell (p := ⟨g, o + k * 2 + 1, none⟩) hg)).trans c2
        have i1 : (0 : Int) ≤ (k : Int) := by omega
        have i2 : (k : Int) < (n : Int) := by omega
        have hval := H200.out k (by rw [HN.out]; exact hkn)
        have hacc := hbl.out k
        have hacl : (HD ++ bodyL (f.subs.take k)).length ≤ 300000 := by
          rw [List.length_take] at hacc
          rw [List.length_append]
          have : 402 * min k f.subs.length ≤ 402 * 16 := Nat.mul_le_mul_left _ (by omega)
          omega
        have hsn := bodyL_snoc f.subs k (by rw [HN.out]; exact hkn)
        obtain ⟨sb, hsb⟩ : ∃ z, f.subs.getD k sub0 = z := ⟨_, rfl⟩
        rw [hsb] at c1 c2 hval hsn
        have hdl2 := dblL_le sb.2
        have HS : RowKit.Hid (HD ++ bodyL (f.subs.take (k + 1)) = HD ++ bodyL (f.subs.take k) ++ [36] ++ [sb.1] ++ dblL sb.2) := by
          unfold RowKit.Hid
          rw [hsn]
          unfold subP
          simp
        generalize HD ++ bodyL (f.subs.take k) = acc at hp hacl HS
        have hbx := heap_alloc_new wr (.cells #[.int .u8 (sb.1.toNat : Int), .string (S sb.2)] 45)
        have ha := hb.alloc hsz (.cells #[.int .u8 (sb.1.toNat : Int), .string (S sb.2)] 45)
        have cS6 := Lib.hid (pbStr _ _ acc [36] _ (hp.alloc (.cells #[.int .u8 (sb.1.toNat : Int), .string (S sb.2)] 45)) (by simp only [List.length_cons, List.length_nil]; omega) ha.size)
        have hnb : wr.heap.size ≠ w1.heap.size := Nat.ne_of_gt hp.lt
        have HBX := Lib.hid hbx
        have HA := Lib.hid ha
        have HE1w := Lib.hid (fun W (h : Below w1.heap.size w1 W) => HE1.out.after h)
        have cDb := Lib.hid (fun W hE => cDouble sb.2 (by omega) W hE)
        clear hsb hbx ha hp hb hsn hacc
        obtain ⟨cy, hcy⟩ : ∃ cy, ((sb.1.toNat : Nat) : Int) = cy := ⟨_, rfl⟩
        obtain ⟨x, hx⟩ : ∃ x, S sb.2 = x := ⟨_, rfl⟩
        have cB := Lib.hid (fun W l h hl hB => pbByte w1.heap.size w1.heap.size l sb.1 W h hl hB)
        rw [hcy, hx] at HBX HA cS6
        rw [hcy] at c1 cB
        rw [hx] at c2 cDb
        clear hcy hx
        go_wp2_with fail
        refine cS6.out.mono ?_
        rintro e w6 ⟨⟨ev6, rfl⟩, h6, b6, kp6⟩
        have B6 := Lib.hid (HA.out.trans b6)
        have s6 := Nat.le_trans HA.out.size b6.size
        have X6 := Lib.hid (kp6.box HBX.out hnb)
        have m0 : w6.cell? ⟨wr.heap.size, 0, none⟩ = some (.int .u8 cy) := by rw [Lib.cell_of_heap X6.out]; rfl
        have m1 : w6.cell? ⟨wr.heap.size, 1, none⟩ = some (.string x) := by rw [Lib.cell_of_heap X6.out]; rfl
        have cS7 := Lib.hid (cB.out _ _ h6 (by rw [List.length_append, List.length_cons, List.length_nil]; omega) s6)
        clear h6 b6 kp6 HBX cS6 HA c1 c2
        go_wp2_with fail
        refine cS7.out.mono ?_
        rintro e w7 ⟨⟨ev7, rfl⟩, h7, b7, kp7⟩
        have B7 := Lib.hid (B6.out.trans b7)
        have s7 := Nat.le_trans s6 b7.size
        have X7 := Lib.hid (kp7.box X6.out hnb)
        have P7 := Lib.hid h7
        have n1 : w7.cell? ⟨wr.heap.size, 1, none⟩ = some (.string x) := by rw [Lib.cell_of_heap X7.out]; rfl
        have cD7 := Lib.hid (cDb.out w7 (HE1w.out _ B7.out))
        clear h7 b7 kp7 B6 X6 m0 m1 cS7 s6 cDb X7
        go_wp2_with fail
        refine cD7.out.mono ?_
        rintro e w8 ⟨rfl, b8⟩
        have P8 := P7.out.after b8
        have B8 := Lib.hid (B7.out.trans (b8.mono s7))
        have s8 := Nat.le_trans s7 b8.size
        have cS9 := Lib.hid (pbStr _ _ _ (dblL sb.2) _ P8 (by simp only [List.length_append, List.length_cons, List.length_nil]; omega) s8)
        clear b8 P8 P7 B7 s7 n1 cD7
        go_wp2_with fail
        refine cS9.out.mono ?_
        rintro e w9 ⟨⟨ev9, rfl⟩, h9, b9, _⟩
        have B9 := Lib.hid (B8.out.trans b9)
        have P9 := Lib.hid h9
        clear h9 b9 cS9 B8 s8
        go_wp2
        go_roundw
        case rel => exact ⟨k + 1, by omega, by go_num, by rw [HS.out]; exact P9.out, B9.out⟩
        case measure => simp [intOf]; omega
      · obtain rfl : k = n := by omega
        rw [show f.subs.take k = f.subs by rw [← HN.out, List.take_length], ← hL.out] at hp
        have cO := Lib.hid (pbOut _ _ _ _ hp hsz)
        have B8 := Lib.hid hb
        clear hp hb
        go_wp2_with fail
        refine cO.out.mono ?_
        rintro e w9 ⟨rfl, b9⟩
        have b10 := B1.out.trans ((B8.out.trans b9).mono B1.out.size)
        clear b9 B8 cO
        go_wp2
        go_ret2
        exact ⟨rfl, b10⟩

set_option maxHeartbeats 8000000 in
theorem fPrint_any (f : Fld) (u : Value) (w : World) (hE : Env w) (hu : QL u f.subs w) (hz : ∀ i, i < f.subs.length → (f.subs.getD i sub0).2.length ≤ 1000000) (r : List UInt8) (er : Int) (h : printR f = (r, er)) :
    Calls Tryd.prog 19 #[FV f u] w fun e w' => e = .returned (.tuple #[.string (S r), .int .i64 er]) ∧ Below w.heap.size w w' := by
  unfold printR at h
  by_cases h0 : rightI f = 0
  · rw [if_pos h0] at h
    simp only [Prod.mk.injEq] at h
    obtain ⟨rfl, rfl⟩ := h
    exact fPrint_ok f u w hE hu h0
  · rw [if_neg h0] at h
    simp only [Prod.mk.injEq] at h
    obtain ⟨rfl, her⟩ := h
    rw [her] at h0
    have b0 : Below w.heap.size w (w.alloc (.cells #[.string (S f.tag), .string (S f.ind), u, .int .i64 f.auth] 43)) := (Below.refl w.heap.size w).alloc (Nat.le_refl _) _
    have cR := Lib.hid (fRight_any f u _ (hE.after b0) (hu.after b0) hz er her)
    have t0 : (er != 0) = true := by simpa using h0
    have HB0 := Lib.hid b0
    obtain ⟨a, cap, rfl, _, _⟩ := hu.length
    unfold FV at cR ⊢
    generalize f.subs.length = n at *
    clear hz h0 her b0 hu
    go_enter Tryd.func19, Tryd.ntmps19
    go_wp2_with fail
    refine (cR.out).mono ?_
    rintro e w1 ⟨rfl, b1⟩
    have b2 := HB0.out.trans (b1.mono HB0.out.size)
    clear b1
    go_wp2
    go_ret2
    exact ⟨rfl, b2⟩
end

section
open Go.RowKit Go.PlainAid
/-- Where the row lies behind an append of a string. -/
theorem strF_block {P : Program} (w : World) (base : Nat) (t u ty e : TypeId) (i : TypeInfo) (ht : P.underlying t = some (.slice e)) (hu : P.underlying u = some .string) (hi : P.info? e = some i) (hz : i.zero = some (.int .u8 0))
    (hsize : i.size = 1) (hby : i.bytes = 1) (v : Value) (n : Nat) (xs : List Value) (hown : w.ownsRowF base e 1 v n xs) (s : ByteArray) (h0 : 0 < s.size)
    (h63 : n + s.size ≤ maxLen) (hbytes : n + s.size ≤ 140737488355328) (v' : Value) (w' : World) (hr : (Builtin.append_ #[t, u] ty #[v, .string s]).run P w = .ok v' w') :
    v'.ownBlock = v.ownBlock ∨ v'.ownBlock = some w.heap.size := by
  have hsmall : n + s.size ≤ 9223372036854775807 := by simp only [maxLen] at h63; omega
  rcases hown.2 with ⟨rfl, rfl⟩ | ⟨g, cap, cur, fz, rfl, hbg, hg, hfz, hnc, hcm, hcs, htake⟩
  · have h2 := run_append_nil_string (P := P) w t u ty e i (.int .u8 0) ht hu hi hz s h0 (by omega) (by rw [hby]; omega)
    rw [hr] at h2
    injection h2 with h3 h4
    rw [h3]
    exact .inr rfl
  · have hxl : xs.length = n := by simpa using hown.1
    by_cases hroom : n + s.size ≤ cap
    · have hcs' : cur.size = cap := by simpa using hcs
      have h2 := Lib.run_append_room_stringF (P := P) w t u ty e i ht hu hi hsize g n cap cur fz hg (by simpa using hfz) s hroom (by omega)
      rw [hr] at h2
      injection h2 with h3 h4
      rw [h3]
      exact .inl rfl
    · have h2 := Lib.run_append_grow_string (P := P) w t u ty e i (.int .u8 0) ht hu hi hz ⟨g, 0, none⟩ n cap xs (by rw [hsize]; simpa using hxl) (hown.cells (g := g) rfl) s (by omega) (by omega) (by rw [hby]; exact growslice_fits (by omega) (by omega))
      rw [hr] at h2
      injection h2 with h3 h4
      rw [h3]
      exact .inr rfl
theorem wpList_append_strX {P : Program} (w : World) {ops : Array Oper} {rest : List Oper} {o : Oper} {a : Act} {Q : Exit → Act → World → Prop} (hgd : o.guard = none) (sl x : Operand) (t u : TypeId)
    (ho : o.op = .call { callee := .builtin .append, args := #[sl, x], argTypes := #[t, u] })
    (base : Nat) (e : TypeId) (i : TypeInfo) (ht : P.underlying t = some (.slice e)) (hu : P.underlying u = some .string) (hi : P.info? e = some i) (hz : i.zero = some (.int .u8 0))
    (hsize : i.size = 1) (hby : i.bytes = 1)
    (v : Value) (n : Nat) (xs : List Value) (hs : a.eval sl = v) (hown : w.ownsRowF base e 1 v n xs) (s : ByteArray) (hx : a.eval x = .string s) (h0 : 0 < s.size)
    (h63 : n + s.size ≤ maxLen) (hbytes : n + s.size ≤ 140737488355328) (hbase : base ≤ w.heap.size)
    (h : ∀ v' w', w'.ownsRowF base e 1 v' (n + s.size) (xs ++ Lib.strCells s) → w.grownBy w' v.ownBlock → v' ≠ .slice none 0 0 → (v'.ownBlock = v.ownBlock ∨ v'.ownBlock = some w.heap.size) → wpList P ops Q rest (a.put o.dst v') w') : wpList P ops Q (o :: rest) a w := by
  refine wpList_plain hgd fun K hK => ?_
  obtain ⟨v', w', hr, h2, h3, h4⟩ := Lib.run_append_own_stringF (P := P) w base t u o.type e i ht hu hi hz hsize hby v n xs hown s h63 hbytes hbase
  have h5 := strF_block w base t u o.type e i ht hu hi hz hsize hby v n xs hown s h0 h63 hbytes v' w' hr
  unfold Oper.wp execOp
  simp only [ho, resolve, invoke, builtin, Sem.run_bind, Sem.run_pure, Result.andThen_ok, List.map_toArray, List.map_cons, List.map_nil, hs, hx, hr]
  exact hK _ _ (h v' w' h2 h3 (fun he => by have := (h4.1 he).2; omega) h5)

theorem heap_set_ne10 (w : World) (p : Addr) (v : Value) (g : Nat) (h : g ≠ p.block) : (w.setCell p v).heap[g]? = w.heap[g]? := Below.heap_setCell _ _ _ _ h
/-- A builder of this call in block b; its bytes' row lies in block og. -/
def BX (B b : Nat) (og : Option Nat) (l : List UInt8) (w : World) : Prop :=
  B ≤ b ∧ ∃ p v, (p = .pointer none ∨ p = .pointer (some ⟨b, 0, none⟩)) ∧ v.ownBlock = og ∧ (l = [] → v = .slice none 0 0) ∧ w.heap[b]? = some (.cells #[p, v] 50 (0, 0)) ∧ w.ownsRowF B 5 1 v (Lib.byteCells l).length (Lib.byteCells l) ∧ og ≠ some b
/-- What a call on such a builder leaves. -/
structure Wr (b : Nat) (og : Option Nat) (w w' : World) : Prop where
  os : w'.os = w.os
  tape : w'.tape = w.tape
  output : w'.output = w.output
  size : w.heap.size ≤ w'.heap.size
  block : ∀ i, i < w.heap.size → i ≠ b → some i ≠ og → w'.heap[i]? = w.heap[i]?
theorem BX.lt {B b : Nat} {og : Option Nat} {l : List UInt8} {w : World} (h : BX B b og l w) : b < w.heap.size := by
  obtain ⟨_, p, v, _, _, _, hb, _⟩ := h
  exact (Array.getElem?_eq_some_iff.1 hb).1
theorem BX.row {B b : Nat} {og : Option Nat} {l : List UInt8} {w : World} (h : BX B b og l w) : ∀ k, og = some k → B ≤ k ∧ k < w.heap.size := by
  obtain ⟨_, p, v, _, rfl, _, _, hown, _⟩ := h
  exact hown.lt
theorem BX.is {B b : Nat} {og : Option Nat} {l : List UInt8} {w : World} (h : BX B b og l w) : IsB B b (Lib.byteCells l) w := by
  obtain ⟨hB, p, v, hp, rfl, _, hb, hown, hne⟩ := h
  rcases hp with rfl | rfl
  · exact .inl ⟨hB, v, hb, hown, hne⟩
  · exact .inr ⟨hB, v, hb, hown, hne⟩
theorem BX.first (w : World) (B : Nat) (hB : B ≤ w.heap.size) : BX B w.heap.size none [] (w.alloc (.cells #[.pointer none, .slice none 0 0] 50)) :=
  ⟨hB, _, _, .inl rfl, rfl, fun _ => rfl, heap_alloc_new w _, World.ownsRowF_nil _ _ _ _, fun h => by cases h⟩
theorem ownF_kept {w w' : World} {B e size n : Nat} {v : Value} {xs : List Value} (h : w.ownsRowF B e size v n xs) (hb : ∀ g, v.ownBlock = some g → w'.heap[g]? = w.heap[g]?) : w'.ownsRowF B e size v n xs := by
  refine ⟨h.1, ?_⟩
  rcases h.2 with hn | ⟨g, cap, cur, fz, rfl, hB', hg, rest⟩
  · exact .inl hn
  · exact .inr ⟨g, cap, cur, fz, rfl, hB', (hb g rfl).trans hg, rest⟩
/-- A builder stays where its blocks stay. -/
theorem BX.on {B b : Nat} {og : Option Nat} {l : List UInt8} {w w' : World} (h : BX B b og l w) (h1 : w'.heap[b]? = w.heap[b]?) (h2 : ∀ g, og = some g → w'.heap[g]? = w.heap[g]?) : BX B b og l w' := by
  obtain ⟨hB, p, v, hp, ho, hn, hb, hown, hne⟩ := h
  exact ⟨hB, p, v, hp, ho, hn, h1.trans hb, ownF_kept hown (fun g hg => h2 g (by rw [← ho, hg])), hne⟩
theorem BX.after {B b : Nat} {og : Option Nat} {l : List UInt8} {w w' : World} (h : BX B b og l w) (hb : Below w.heap.size w w') : BX B b og l w' :=
  h.on (hb.block b h.lt) (fun g hg => hb.block g (h.row g hg).2)
/-- Another builder's calls. -/
theorem BX.beside {B b c : Nat} {og oh : Option Nat} {l : List UInt8} {w w' : World} (h : BX B b og l w) (hw : Wr c oh w w') (h1 : b ≠ c) (h2 : some b ≠ oh) (h3 : og ≠ some c) (h4 : og = none ∨ og ≠ oh) : BX B b og l w' := by
  refine h.on (hw.block b h.lt h1 h2) (fun g hg => hw.block g (h.row g hg).2 (fun e => h3 (by rw [hg, e])) ?_)
  rcases h4 with h4 | h4
  · rw [hg] at h4; cases h4
  · rw [← hg]; exact h4
/-- The builder's block is no row of bytes. -/
theorem BX.ne_row {B b c : Nat} {og oh : Option Nat} {l m : List UInt8} {w : World} (h : BX B b og l w) (k : BX B c oh m w) : some b ≠ oh := by
  obtain ⟨_, p, v, _, _, _, hb, _⟩ := h
  obtain ⟨_, q, u, _, rfl, _, _, hown, _⟩ := k
  intro e
  rcases hown.2 with ⟨rfl, _⟩ | ⟨g, cap, cur, fz, rfl, hB', hg, rest⟩
  · cases e
  · have : b = g := Option.some.inj e
    subst this
    rw [hb] at hg
    simp only [Option.some.injEq, Obj.cells.injEq] at hg
    exact absurd hg.2.1 (by decide)
theorem Wr.below {b : Nat} {og : Option Nat} {w w' : World} (h : Wr b og w w') (N : Nat) (hN : N ≤ w.heap.size) (hb : N ≤ b) (hg : ∀ g, og = some g → N ≤ g) : Below N w w' :=
  ⟨h.os, h.tape, h.output, h.size, fun i hi => h.block i (by omega) (by omega) (fun e => by have := hg i e.symm; omega)⟩

theorem bytes_app (a b : List UInt8) : Lib.byteCells a ++ Lib.strCells (S b) = Lib.byteCells (a ++ b) := by
  show Lib.byteCells a ++ Lib.byteCells b = _
  simp [Lib.byteCells]
theorem byteCells_len (a : List UInt8) : (Lib.byteCells a).length = a.length := by simp [Lib.byteCells]
theorem lenX (B b : Nat) (og : Option Nat) (l : List UInt8) (w : World) (h : BX B b og l w) :
    Calls Tryd.prog 24 #[.pointer (some ⟨b, 0, none⟩)] w fun e w' => e = .returned (.int .i64 (l.length : Int)) ∧ w' = w := by
  have c := Tryd.Builder_Len_f B b (Lib.byteCells l) w h.is
  rw [byteCells_len] at c
  exact c

set_option maxRecDepth 100000 in
set_option maxHeartbeats 4000000 in
theorem writeX (B b : Nat) (og : Option Nat) (l x : List UInt8) (w : World) (h : BX B b og l w) (hx : x ≠ []) (hl : l.length + x.length ≤ 100000000) (hBw : B ≤ w.heap.size) :
    Calls Tryd.prog 17 #[.pointer (some ⟨b, 0, none⟩), .string (S x)] w fun e w' => (∃ v, e = .returned v) ∧ ∃ oh, BX B b oh (l ++ x) w' ∧ Wr b og w w' ∧ (oh = og ∨ ∃ n, oh = some n ∧ w.heap.size ≤ n) := by
  obtain ⟨i0, hi, hz0, hz1, hz2⟩ := info_parts infoByte
  have hxs : (S x).size = x.length := S_size x
  have hx0 : 0 < x.length := List.length_pos_iff.2 hx
  have his := h.is
  obtain ⟨hB, p, v, hp, rfl, hnil, hbk, hown, hne⟩ := h
  have cC : Calls Tryd.prog 27 #[.pointer (some ⟨b, 0, none⟩)] w fun e w1 => e = .returned (.tuple #[]) ∧ w1.heap[b]? = some (.cells #[.pointer (some ⟨b, 0, none⟩), v] 50 (0, 0)) ∧ w1.heap.size = w.heap.size ∧ (w1.os = w.os ∧ w1.tape = w.tape ∧ w1.output = w.output) ∧ ∀ i, i ≠ b → w1.heap[i]? = w.heap[i]? := by
    rcases hp with rfl | rfl
    · have hA : Lib.BuilderAtF 50 5 B b (.pointer none) (Lib.byteCells l) w := ⟨hB, v, hbk, hown, hne⟩
      refine (check_fresh b w hA.cell0 hA.shape hA.frozen0).mono ?_
      rintro e w' ⟨rfl, rfl⟩
      exact ⟨rfl, by simp [World.setCell, Array.getElem?_modify, hbk], by simp [World.setCell], ⟨rfl, rfl, rfl⟩, fun i hi => Below.heap_setCell _ _ _ _ hi⟩
    · have hA : Lib.BuilderAtF 50 5 B b (.pointer (some ⟨b, 0, none⟩)) (Lib.byteCells l) w := ⟨hB, v, hbk, hown, hne⟩
      refine (check_used b w hA.cell0).mono ?_
      rintro e w' ⟨rfl, rfl⟩
      exact ⟨rfl, hbk, rfl, ⟨rfl, rfl, rfl⟩, fun _ _ => rfl⟩
  have HC := Lib.hid cC
  clear cC his
  go_enter Tryd.func17, Tryd.ntmps17
  go_wp2_with (go_at_call 27; refine HC.out.mono ?_)
  rintro e w1 ⟨rfl, hbk1, hs1, hw1, hk1⟩
  have hown1 : w1.ownsRowF B 5 1 v (Lib.byteCells l).length (Lib.byteCells l) := ownF_kept hown (fun g hg => hk1 g (fun e => hne (by rw [hg, e])))
  have c0 : w1.cell? ⟨b, 0, none⟩ = some (.pointer (some ⟨b, 0, none⟩)) := by rw [Lib.cell_of_heap hbk1]; rfl
  have c1 : w1.cell? ⟨b, 1, none⟩ = some v := by rw [Lib.cell_of_heap hbk1]; rfl
  have hlt : b < w1.heap.size := (Array.getElem?_eq_some_iff.1 hbk1).1
  have hbl : (Lib.byteCells l).length = l.length := byteCells_len l
  go_wp2_with (at_builtin; refine wpList_append_strX _ rfl _ _ 48 9 rfl B 5 i0 Tryd.underlying48 Tryd.underlying9 hi hz0 hz1 hz2 _ _ _ rfl hown1 (S x) rfl ?c2 ?c3 ?c4 ?c5 ?_)
  case c2 => omega
  case c3 => unfold maxLen; omega
  case c4 => omega
  case c5 => omega
  intro v' w2 hown' hgrow hnn hob
  have hb2 : w2.heap[b]? = some (.cells #[.pointer (some ⟨b, 0, none⟩), v] 50 (0, 0)) := by
    rw [hgrow.block b hlt (fun e => hne e.symm)]
    exact hbk1
  have d0 : w2.cell? ⟨b, 0, none⟩ = some (.pointer (some ⟨b, 0, none⟩)) := by rw [Lib.cell_of_heap hb2]; rfl
  have d1 : w2.cell? ⟨b, 1, none⟩ = some v := by rw [Lib.cell_of_heap hb2]; rfl
  have f1 : w2.frozen? ⟨b, 1, none⟩ = false := Lib.frozen_of_heap hb2 1
  have hne2 := Lib.ownBlock_neF hown' hb2 (by decide)
  have HW : RowKit.Hid (Wr b v.ownBlock w (w2.setCell ⟨b, 1, none⟩ v')) := by
    refine ⟨hgrow.os.trans hw1.1, hgrow.tape.trans hw1.2.1, hgrow.output.trans hw1.2.2, by have := hgrow.size; simp [World.setCell]; omega, fun i hi hib hio => ?_⟩
    rw [heap_set_ne10 _ _ _ _ hib, hgrow.block i (by omega) hio]
    exact hk1 i hib
  have HB : RowKit.Hid (BX B b v'.ownBlock (l ++ x) (w2.setCell ⟨b, 1, none⟩ v')) := by
    refine ⟨hB, _, v', .inr rfl, rfl, fun h => ?_, by simp [World.setCell, Array.getElem?_modify, hb2], ?_, hne2⟩
    · exact absurd (List.append_eq_nil_iff.1 h).2 hx
    · refine ownF_kept ?_ (fun g hg => heap_set_ne10 _ _ _ _ (fun e => hne2 (by rw [hg, e])))
      rw [← bytes_app, List.length_append, Lib.strCells_length, hbl, hxs]
      exact hown'
  have HO : RowKit.Hid (v'.ownBlock = v.ownBlock ∨ ∃ n, v'.ownBlock = some n ∧ w.heap.size ≤ n) := hob.imp id fun h => ⟨_, h, by omega⟩
  obtain ⟨ao, n', cap, rfl⟩ : ∃ ao n' cap, v' = .slice ao n' cap := by
    rcases hown'.2 with ⟨hv, _⟩ | ⟨g, cap, cur, fz, hv, _⟩
    · exact ⟨_, _, _, hv⟩
    · exact ⟨_, _, _, hv⟩
  clear hown' hgrow hnn hob hown1 hown hk1 hw1 hne2 hb2 hbk hbk1 HC
  go_wp2
  go_ret2
  exact ⟨⟨_, rfl⟩, _, HB.out, HW.out, HO.out⟩

theorem cellsByte : Tryd.prog.cellsOf 5 = 1 := by kernel_rfl
set_option maxRecDepth 100000 in
set_option maxHeartbeats 4000000 in
theorem outX (B b : Nat) (og : Option Nat) (l : List UInt8) (w : World) (h : BX B b og l w) (hl : l.length ≤ 100000000) :
    Calls Tryd.prog 20 #[.pointer (some ⟨b, 0, none⟩)] w fun e w' => e = .returned (.string (S l)) ∧ BX B b og l w' ∧ Wr b og w w' ∧ w'.heap[b]? = w.heap[b]? := by
  have hx := h
  obtain ⟨hB, p, v, hp, rfl, hnil, hbk, hown, hne⟩ := h
  by_cases h0 : l = []
  · subst h0
    obtain rfl := hnil rfl
    have hUS : ∀ W, (Builtin.unsafeString_ #[71, 3] 9 #[.pointer none, .int .i64 0]).run Tryd.prog W = .ok (.string .empty) W := fun W => Lib.run_unsafeString_none W _ _ _ _
    have c1 : w.drew.cell? ⟨b, 1, none⟩ = some (.slice none 0 0) := by
      have : w.drew.heap[b]? = some (.cells #[p, .slice none 0 0] 50 (0, 0)) := hbk
      rw [Lib.cell_of_heap this]; rfl
    have hSD : (Builtin.unsafeSliceData_ #[48] 71 #[.slice none 0 0]).run Tryd.prog w.drew = .ok (.pointer none) w.drew := rfl
    have HF : RowKit.Hid (BX B b (Value.slice none 0 0).ownBlock [] w.drew ∧ Wr b (Value.slice none 0 0).ownBlock w w.drew ∧ w.drew.heap[b]? = w.heap[b]?) := ⟨hx, ⟨rfl, rfl, rfl, Nat.le_refl _, fun _ _ _ _ => rfl⟩, rfl⟩
    clear hx hown hne hbk hnil
    have mixed : Tryd.prog.follows .mixedOrders = true := by kernel_rfl
    go_enter Tryd.func20, Tryd.ntmps20
    go_wp2
    go_region_o
    all_goals (go_wp2; go_ret; exact ⟨rfl, HF.out⟩)
  have hl0 : l.length ≠ 0 := by simpa using h0
  have hbl := byteCells_len l
  rw [hbl] at hown
  obtain ⟨g, cap, cur, fz, rfl, hbg, hg, hfz, hnc, hcm, hcs, htake⟩ : ∃ g cap cur fz, v = .slice (some ⟨g, 0, none⟩) l.length cap ∧ B ≤ g ∧ w.heap[g]? = some (.cells cur 5 fz) ∧ fz.2 ≤ l.length * 1 ∧ l.length ≤ cap ∧ cap ≤ maxLen ∧ cur.size = cap * 1 ∧ cur.toList.take (l.length * 1) = Lib.byteCells l := by
    rcases hown.2 with ⟨_, hz⟩ | ⟨g, cap, cur, fz, hv, r⟩
    · exact absurd hz hl0
    · exact ⟨g, cap, cur, fz, hv, r⟩
  have c1 : w.drew.cell? ⟨b, 1, none⟩ = some (.slice (some ⟨g, 0, none⟩) l.length cap) := by
    have : w.drew.heap[b]? = some (.cells #[p, .slice (some ⟨g, 0, none⟩) l.length cap] 50 (0, 0)) := hbk
    rw [Lib.cell_of_heap this]; rfl
  have hSD : (Builtin.unsafeSliceData_ #[48] 71 #[.slice (some ⟨g, 0, none⟩) l.length cap]).run Tryd.prog w.drew = .ok (.pointer (some ⟨g, 0, none⟩)) w.drew :=
    Lib.run_unsafeSliceData_row _ _ _ _ _ _ (by omega)
  have hUS : (Builtin.unsafeString_ #[71, 3] 9 #[.pointer (some ⟨g, 0, none⟩), .int .i64 l.length]).run Tryd.prog w.drew = .ok (.string ⟨l.toArray⟩) (w.drew.freeze ⟨g, 0, none⟩ l.length) := by
    refine Lib.run_unsafeString_row w.drew 71 3 9 5 Tryd.underlying71 cellsByte g cur.size (by have hg' : w.drew.heap[g]? = some (.cells cur 5 fz) := hg; simp [World.shape?, hg']) l h0 (by omega) (by unfold maxLen at hcm; omega) ?_
    intro j x hx
    have := hown.cells (g := g) rfl j (.int .u8 x.toNat) (by simp [Lib.byteCells, hx])
    exact this
  have hgb : g ≠ b := fun e => hne (by rw [← e]; rfl)
  have hfr : ∀ i, i ≠ g → (w.drew.freeze ⟨g, 0, none⟩ l.length).heap[i]? = w.heap[i]? := fun i hi => by
    unfold World.freeze
    split
    · rfl
    · simp only [Array.getElem?_modify]
      rw [if_neg (fun e => hi e.symm)]
      rfl
  have HF : RowKit.Hid (BX B b (Value.slice (some ⟨g, 0, none⟩) l.length cap).ownBlock l (w.drew.freeze ⟨g, 0, none⟩ l.length) ∧ Wr b (Value.slice (some ⟨g, 0, none⟩) l.length cap).ownBlock w (w.drew.freeze ⟨g, 0, none⟩ l.length) ∧ (w.drew.freeze ⟨g, 0, none⟩ l.length).heap[b]? = w.heap[b]?) := by
    have hA : Lib.BuilderAtF 50 5 B b p (Lib.byteCells l) w.drew := ⟨hB, _, hbk, by rw [hbl]; exact hown, hne⟩
    have hF := hA.froze (g := g) (cap := cap) (by rw [hbl]; exact c1)
    rw [hbl] at hF
    obtain ⟨_, v2, hb2, hown2, hne2⟩ := hF
    have hbb := hfr b (Ne.symm hgb)
    rw [hbb, hbk] at hb2
    simp only [Option.some.injEq, Obj.cells.injEq, Array.mk.injEq, List.cons.injEq, true_and, and_true] at hb2
    obtain rfl := hb2
    have hbelow := Lib.below_freeze (Below.drew (Below.refl 0 w)) (p := ⟨g, 0, none⟩) (Nat.zero_le _) l.length
    exact ⟨⟨hB, p, _, hp, rfl, fun h => absurd h h0, hbb.trans hbk, hown2, hne⟩, ⟨hbelow.os, hbelow.tape, hbelow.output, hbelow.size, fun i _ _ hig => hfr i (fun e => hig (by rw [e]; rfl))⟩, hbb⟩
  clear hx hown hne hbk hnil hfr htake hcs hfz hg
  have mixed : Tryd.prog.follows .mixedOrders = true := by kernel_rfl
  go_enter Tryd.func20, Tryd.ntmps20
  go_wp2
  go_region_o
  all_goals (go_wp2; go_ret; exact ⟨rfl, HF.out⟩)
end

end Go.Proofs.YtnfallkeicehiaaDoor

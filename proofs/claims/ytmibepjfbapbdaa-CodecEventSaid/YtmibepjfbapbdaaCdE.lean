/- codec: lists of numbers and texts behind a buffer. -/
import Derived.Test.YtmibepjfbapbdaaCdD
import Derived.Shelf.Abstract
namespace Go.Proofs.Ytmibepjfbapbdaa.Cd
open Go.RowKit Go.Proofs.Ytmibepjfbapbdaa
set_option maxRecDepth 100000

/-- The list's loop: i things are behind the buffer. -/
structure LisR {M : Type} (E : El M) (w : World) (v0 : Value) (bs : List UInt8) (l : List M) (v i : Value) (wr : World) : Prop where
  ex : ∃ k : Nat, k ≤ l.length ∧ i = .int .i64 (k : Int) ∧ ∃ a n c, v = .slice a n c ∧ Out (own v0) w wr (.slice a n c) (bs ++ (l.take k).flatMap E.c.enc)

theorem LisR.step {M : Type} {E : El M} {w wr : World} {v0 v : Value} {bs : List UInt8} {l : List M} {k : Nat} {x : M} (hx : l[k]? = some x) (h : Out (own v0) w wr v ((bs ++ (l.take k).flatMap E.c.enc) ++ E.c.enc x)) : LisR E w v0 bs l v (.int .i64 ((k : Int) + 1)) wr := by
  obtain ⟨a, n, c, rfl⟩ := h.slice
  obtain ⟨hk, hx2⟩ := List.getElem?_eq_some_iff.1 hx
  refine ⟨k + 1, by omega, by rw [Int.natCast_add]; rfl, a, n, c, rfl, ?_⟩
  rw [List.take_succ_eq_append_getElem hk, hx2, List.flatMap_append]
  simpa using h

theorem list_len {M : Type} {E : El M} {l : List M} {k : Nat} {x : M} (hx : l[k]? = some x) : ((l.take k).flatMap E.c.enc).length + (E.c.enc x).length ≤ (l.flatMap E.c.enc).length := by
  obtain ⟨hk, hx2⟩ := List.getElem?_eq_some_iff.1 hx
  have e : l = l.take k ++ [x] ++ l.drop (k + 1) := by
    rw [← hx2, ← List.take_succ_eq_append_getElem hk, List.take_append_drop]
  have h2 : l.flatMap E.c.enc = (l.take k).flatMap E.c.enc ++ E.c.enc x ++ (l.drop (k + 1)).flatMap E.c.enc := by
    conv => lhs; rw [e]
    rw [List.flatMap_append, List.flatMap_append]; simp
  rw [h2]; simp only [List.length_append]; omega

/-- What a list names is no block of the buffer's. -/
theorem Out.apart {w wr : World} {v0 v : Value} {bs : List UInt8} (h : Out (own v0) w wr v bs) {Pb : Nat → Prop} (hP : ∀ g, Pb g → g < w.heap.size ∧ v0.ownBlock ≠ some g) : ∀ g, Pb g → g < wr.heap.size ∧ v.ownBlock ≠ some g := by
  intro g hg
  obtain ⟨h1, h2⟩ := hP g hg
  refine ⟨Nat.lt_of_lt_of_le h1 h.keep.size, fun e => ?_⟩
  rcases h.new g e with e1 | e1
  · exact h2 e1
  · omega
theorem Out.laid {M : Type} {E : El M} {w wr : World} {v0 v lv : Value} {bs : List UInt8} {l : List M} (h : Out (own v0) w wr v bs) {Pb : Nat → Prop} (hP : ∀ g, Pb g → g < w.heap.size ∧ v0.ownBlock ≠ some g) (hL : LAt E Pb w lv l) : LAt E Pb wr lv l :=
  hL.keep h.keep (fun g hg _ => (hP g hg).2)

theorem Try.enPutInt : ∀ args w, (callFunc 59 args).run Try.prog w = .ok (.enter 59 args) w := enters_of Try.func59 (by kernel_rfl) rfl

theorem putListInt_any {N : Nat → Prop} {w0 w : World} {v : Value} {bs : List UInt8} (h : Out N w0 w v bs) {Pb : Nat → Prop} (hP : ∀ g, Pb g → g < w.heap.size ∧ v.ownBlock ≠ some g) {lv : Value} {l : List Int} (hL : LAt eI Pb w lv l)
    (hok : (cList eI.c).ok l) (hl : bs.length + ((cList eI.c).enc l).length ≤ lim) : Calls Try.prog 61 #[v, lv, .func (.func 59) #[] #[]] w (Puts N w0 (bs ++ (cList eI.c).enc l)) := by
  have e : (cList eI.c).enc l = encL l.length ++ l.flatMap eI.c.enc := rfl
  rw [e, List.length_append] at hl
  rw [e, ← List.append_assoc]
  clear e
  have HB := Lib.hid h
  have HQ := Lib.hid (putLength_any h.here l.length hok.1 (by omega))
  have HO := Lib.hid hok.2
  have HPP := Lib.hid hP
  have HLA := Lib.hid hL
  have HLL := Lib.hid hl
  obtain ⟨al, cl, rfl, _⟩ := hL.slice
  obtain ⟨ab, nb, cb, rfl⟩ := h.slice
  obtain ⟨n, hn⟩ : ∃ n, n = l.length := ⟨_, rfl⟩
  have HN := Lib.hid hn
  have hn1 : (n : Int) ≤ 2147483647 := by have := hok.1; omega
  rw [← hn] at HQ HLA HLL ⊢
  clear h hl hok hP hL hn
  go_enter Try.func61, Try.ntmps61
  go_wp2_with fail
  refine HQ.out.mono ?_
  rintro e w2 ⟨a2, n2, c2, rfl, h2⟩
  have H2 := Lib.hid h2
  clear h2
  go_wp2_with fail
  go_loopw [0, 15] (fun v i wr => LisR eI w (.slice ab nb cb) (bs ++ encL n) l v i wr) (fun _ i _ => n - (intOf i).toNat)
  case atStart => exact ⟨0, by omega, rfl, _, _, _, rfl, by simpa using H2.out⟩
  case round =>
    obtain ⟨k, hk, rfl, a3, n3, c3, rfl, h3⟩ := hrel.ex
    clear hrel
    have H3 := Lib.hid h3
    clear h3
    rw [← HN.out] at hk
    by_cases hlt : k < n
    · have hlt1 : (k : Int) < (n : Int) := by omega
      obtain ⟨x, hx⟩ : ∃ x, l[k]? = some x := ⟨_, List.getElem?_eq_getElem (by have := HN.out; omega)⟩
      obtain ⟨g, off, cs, rfl, _, _, hH, hr⟩ := (H3.out.laid HPP.out HLA.out).get k x hx
      have HLI := Lib.hid (list_len (E := eI) hx)
      have HC := Lib.hid (putInt_e H3.out (H3.out.apart HPP.out) hH (HO.out x (List.mem_of_getElem? hx)) (by rw [List.length_append, List.length_append]; have := HLI.out; have := HLL.out; omega))
      have e : cs = [.int .i64 x] := hH
      subst e
      have c0 : wr.cell? ⟨g, off + k, none⟩ = some (.int .i64 x) := by have := hr 0 _ rfl; simpa [eI] using this
      have hen := Try.enPutInt
      have HX := Lib.hid hx
      clear hH hr hx
      go_wp2_with fail
      refine HC.out.mono ?_
      rintro e w4 ⟨a4, n4, c4, rfl, h4⟩
      have H4 := Lib.hid h4
      clear h4
      go_wp2_with fail
      go_roundw
      case rel =>
        (repeat apply Exists.intro)
        exact LisR.step HX.out H4.out
      case measure => simp [intOf]; omega
    · obtain rfl : k = n := by omega
      go_wp2
      go_ret
      have h9 := H3.out
      rw [show l.take k = l from List.take_of_length_le (by have := HN.out; omega)] at h9
      exact (HB.out.trans (Keep.refl _ _) h9).puts

theorem Try.enPutText : ∀ args w, (callFunc 60 args).run Try.prog w = .ok (.enter 60 args) w := enters_of Try.func60 (by kernel_rfl) rfl

theorem putListText_any {N : Nat → Prop} {w0 w : World} {v : Value} {bs : List UInt8} (h : Out N w0 w v bs) {Pb : Nat → Prop} (hP : ∀ g, Pb g → g < w.heap.size ∧ v.ownBlock ≠ some g) {lv : Value} {l : List ByteArray} (hL : LAt eS Pb w lv l)
    (hok : (cList eS.c).ok l) (hl : bs.length + ((cList eS.c).enc l).length ≤ lim) : Calls Try.prog 72 #[v, lv, .func (.func 60) #[] #[]] w (Puts N w0 (bs ++ (cList eS.c).enc l)) := by
  have e : (cList eS.c).enc l = encL l.length ++ l.flatMap eS.c.enc := rfl
  rw [e, List.length_append] at hl
  rw [e, ← List.append_assoc]
  clear e
  have HB := Lib.hid h
  have HQ := Lib.hid (putLength_any h.here l.length hok.1 (by omega))
  have HO := Lib.hid hok.2
  have HPP := Lib.hid hP
  have HLA := Lib.hid hL
  have HLL := Lib.hid hl
  obtain ⟨al, cl, rfl, _⟩ := hL.slice
  obtain ⟨ab, nb, cb, rfl⟩ := h.slice
  obtain ⟨n, hn⟩ : ∃ n, n = l.length := ⟨_, rfl⟩
  have HN := Lib.hid hn
  have hn1 : (n : Int) ≤ 2147483647 := by have := hok.1; omega
  rw [← hn] at HQ HLA HLL ⊢
  clear h hl hok hP hL hn
  go_enter Try.func72, Try.ntmps72
  go_wp2_with fail
  refine HQ.out.mono ?_
  rintro e w2 ⟨a2, n2, c2, rfl, h2⟩
  have H2 := Lib.hid h2
  clear h2
  go_wp2_with fail
  go_loopw [0, 15] (fun v i wr => LisR eS w (.slice ab nb cb) (bs ++ encL n) l v i wr) (fun _ i _ => n - (intOf i).toNat)
  case atStart => exact ⟨0, by omega, rfl, _, _, _, rfl, by simpa using H2.out⟩
  case round =>
    obtain ⟨k, hk, rfl, a3, n3, c3, rfl, h3⟩ := hrel.ex
    clear hrel
    have H3 := Lib.hid h3
    clear h3
    rw [← HN.out] at hk
    by_cases hlt : k < n
    · have hlt1 : (k : Int) < (n : Int) := by omega
      obtain ⟨x, hx⟩ : ∃ x, l[k]? = some x := ⟨_, List.getElem?_eq_getElem (by have := HN.out; omega)⟩
      obtain ⟨g, off, cs, rfl, _, _, hH, hr⟩ := (H3.out.laid HPP.out HLA.out).get k x hx
      have HLI := Lib.hid (list_len (E := eS) hx)
      have HC := Lib.hid (putText_e H3.out (H3.out.apart HPP.out) hH (HO.out x (List.mem_of_getElem? hx)) (by rw [List.length_append, List.length_append]; have := HLI.out; have := HLL.out; omega))
      have e : cs = [.string x] := hH
      subst e
      have c0 : wr.cell? ⟨g, off + k, none⟩ = some (.string x) := by have := hr 0 _ rfl; simpa [eS] using this
      have hen := Try.enPutText
      have HX := Lib.hid hx
      clear hH hr hx
      go_wp2_with fail
      refine HC.out.mono ?_
      rintro e w4 ⟨a4, n4, c4, rfl, h4⟩
      have H4 := Lib.hid h4
      clear h4
      go_wp2_with fail
      go_roundw
      case rel =>
        (repeat apply Exists.intro)
        exact LisR.step HX.out H4.out
      case measure => simp [intOf]; omega
    · obtain rfl : k = n := by omega
      go_wp2
      go_ret
      have h9 := H3.out
      rw [show l.take k = l from List.take_of_length_le (by have := HN.out; omega)] at h9
      exact (HB.out.trans (Keep.refl _ _) h9).puts

end Go.Proofs.Ytmibepjfbapbdaa.Cd

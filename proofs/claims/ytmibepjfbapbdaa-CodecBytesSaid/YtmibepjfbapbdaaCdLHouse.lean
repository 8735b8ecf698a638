/- codec: Houses behind a buffer. -/
import Derived.Test.YtmibepjfbapbdaaCdC
namespace Go.Proofs.Ytmibepjfbapbdaa.Cd
open Go.RowKit Go.Proofs.Ytmibepjfbapbdaa
set_option maxRecDepth 100000

theorem zHouse : ∃ Z : Array Value, Hid (∀ w : World, (zeroValue 65).run Try.prog w = .ok (.agg Z) w) ∧ Z.size = 4 :=
  ⟨#[.int .i64 0, strVal "", .slice none 0 0, .int .i64 0], Lib.hid (fun w => by kernel_rfl), rfl⟩

theorem putHouse_e : PutE 29 eHouse struct_ := by
  intro N w0 w v bs h Pb hP x cs hx hok hl
  obtain ⟨room, owner, guests, chest⟩ := x
  obtain ⟨dv, hL, rfl⟩ := hx
  have HPP := Lib.hid hP
  have HLA := Lib.hid hL
  have e : eHouse.c.enc (room, owner, guests, chest) = encN room ++ (cT.enc owner ++ ((cList eS.c).enc guests ++ (encN chest))) := rfl
  rw [e] at hl ⊢
  clear e
  rw [show bs ++ (encN room ++ (cT.enc owner ++ ((cList eS.c).enc guests ++ (encN chest)))) = bs ++ encN room ++ cT.enc owner ++ (cList eS.c).enc guests ++ encN chest by simp only [List.append_assoc]]
  simp only [List.length_append] at hl
  have HL := Lib.hid hl
  obtain ⟨okroom, okowner, okguests, okchest⟩ := hok
  have OKroom : Hid (okN room) := Lib.hid okroom
  have OKowner : Hid (owner.size < 2147483648) := Lib.hid okowner
  have OKguests := Lib.hid okguests
  have OKchest : Hid (okN chest) := Lib.hid okchest
  have HB := Lib.hid h
  have H0 : Hid (Out (own v) (w.alloc (.cells #[.int .i64 room, .string owner, dv, .int .i64 chest] 65)) (w.alloc (.cells #[.int .i64 room, .string owner, dv, .int .i64 chest] 65)) v bs) := Lib.hid (h.alloc _).here
  obtain ⟨ab, nb, cb, rfl⟩ := h.slice
  obtain ⟨ad, cd, rfl, _⟩ := hL.slice
  clear h hl okroom okowner okguests okchest hP hL
  unfold struct_
  go_enter Try.func29, Try.ntmps29
  go_wp2_with fail
  refine (putInt_any H0.out OKroom.out (by have := HL.out; (try simp only [List.length_append]); omega)).mono ?_
  rintro e w1 ⟨a1, n1, q1, rfl, h1⟩
  have H1 := Lib.hid h1
  clear h1
  have c1 := HB.out.box H1.out 1 rfl
  go_wp2_with fail
  refine (putText_any H1.out owner OKowner.out (by have := HL.out; (try simp only [List.length_append]); omega)).mono ?_
  rintro e w2 ⟨a2, n2, q2, rfl, h2⟩
  have H2 := Lib.hid h2
  clear h2 c1
  have c2 := HB.out.box H2.out 2 rfl
  go_wp2_with fail
  refine (putListText_any H2.out (HB.out.within H2.out HPP.out HLA.out).1 (HB.out.within H2.out HPP.out HLA.out).2 OKguests.out (by have := HL.out; (try simp only [List.length_append]); omega)).mono ?_
  rintro e w3 ⟨a3, n3, q3, rfl, h3⟩
  have H3 := Lib.hid h3
  clear h3 c2
  have c3 := HB.out.box H3.out 3 rfl
  go_wp2_with fail
  refine (putNumber_any H3.out OKchest.out (by have := HL.out; (try simp only [List.length_append]); omega)).mono ?_
  rintro e w4 ⟨a4, n4, q4, rfl, h4⟩
  have H4 := Lib.hid h4
  clear h4 c3
  go_wp2
  go_ret
  exact (HB.out.trans ((Keep.refl (fun _ => False) w).alloc _) H4.out).puts

theorem Try.enPutHouse : ∀ args w, (callFunc 29 args).run Try.prog w = .ok (.enter 29 args) w := enters_of Try.func29 (by kernel_rfl) rfl

theorem putListHouse_any {N : Nat → Prop} {w0 w : World} {v : Value} {bs : List UInt8} (h : Out N w0 w v bs) {Pb : Nat → Prop} (hP : ∀ g, Pb g → g < w.heap.size ∧ v.ownBlock ≠ some g) {lv : Value} {l : List _} (hL : LAt eHouse Pb w lv l)
    (hok : (cList eHouse.c).ok l) (hl : bs.length + ((cList eHouse.c).enc l).length ≤ lim) : Calls Try.prog 28 #[v, lv, .func (.func 29) #[] #[]] w (Puts N w0 (bs ++ (cList eHouse.c).enc l)) := by
  have e : (cList eHouse.c).enc l = encL l.length ++ l.flatMap eHouse.c.enc := rfl
  rw [e, List.length_append] at hl
  rw [e, ← List.append_assoc]
  clear e
  obtain ⟨Z, HZ, hZs⟩ := zHouse
  have HB := Lib.hid h
  have HQ := Lib.hid (putLength_any h.here l.length hok.1 (by omega))
  have HO := Lib.hid hok.2
  have HPP := Lib.hid hP
  have HLA := Lib.hid hL
  have HLL := Lib.hid hl
  obtain ⟨al, cl, rfl, _⟩ := hL.slice
  obtain ⟨ab, nb, cb, rfl⟩ := h.slice
  obtain ⟨n, hn⟩ : ∃ n, n = l.length := ⟨_, rfl⟩
  have HN := Lib.hid hn
  have hn1 : (n : Int) ≤ 2147483647 := by have := hok.1; omega
  rw [← hn] at HQ HLA HLL ⊢
  clear h hl hok hP hL hn
  go_enter Try.func28, Try.ntmps28
  go_wp2_with fail
  refine HQ.out.mono ?_
  rintro e w2 ⟨a2, n2, c2, rfl, h2⟩
  have H2 := Lib.hid h2
  clear h2
  go_wp2_with fail
  go_loopw [0, 15] (fun v i wr => LisR eHouse w (.slice ab nb cb) (bs ++ encL n) l v i wr) (fun _ i _ => n - (intOf i).toNat)
  case atStart => exact ⟨0, by omega, rfl, _, _, _, rfl, by simpa using H2.out⟩
  case round =>
    obtain ⟨k, hk, rfl, a3, n3, c3, rfl, h3⟩ := hrel.ex
    clear hrel
    have H3 := Lib.hid h3
    clear h3
    rw [← HN.out] at hk
    by_cases hlt : k < n
    · have hlt1 : (k : Int) < (n : Int) := by omega
      obtain ⟨x, hx⟩ : ∃ x, l[k]? = some x := ⟨_, List.getElem?_eq_getElem (by have := HN.out; omega)⟩
      obtain ⟨g, off, cs, rfl, _, _, hH, hr⟩ := (H3.out.laid HPP.out HLA.out).get k x hx
      have HLI := Lib.hid (list_len (E := eHouse) hx)
      have H5 : Hid (Out (own (.slice ab nb cb)) w (wr.alloc (.cells cs.toArray 65)) (.slice a3 n3 c3) (bs ++ encL n ++ (l.take k).flatMap eHouse.c.enc)) := Lib.hid (H3.out.alloc _)
      have hH5 : eHouse.H Pb (wr.alloc (.cells cs.toArray 65)) x cs := eHouse.keep ((Keep.refl (fun _ => False) wr).alloc _) (fun _ _ _ h => h) hH
      have HC := Lib.hid (putHouse_e H5.out (H5.out.apart HPP.out) hH5 (HO.out x (List.mem_of_getElem? hx)) (by rw [List.length_append, List.length_append]; have := HLI.out; have := HLL.out; omega))
      unfold struct_ at HC
      have hlen : cs.toArray.size = 4 := by rw [List.size_toArray]; exact eHouse.len hH
      have hlen2 : cs.length = 4 := eHouse.len hH
      have HONE : Hid (cs.toArray.all (·.oneCell') = true) := Lib.hid (by
        rw [Array.all_eq_true_iff_forall_mem]; intro u hu; exact eHouse.one hH u (by simpa using hu))
      have HR := Lib.hid hr
      have hen := Try.enPutHouse
      have HX := Lib.hid hx
      have HNEW := Lib.hid (heap_alloc_new wr (.cells cs.toArray 65))
      obtain ⟨C, hC⟩ : ∃ C, C = cs.toArray := ⟨_, rfl⟩
      have HCC := Lib.hid hC
      rw [← hC] at HC HNEW HONE hlen
      clear hH hr hx hH5 H5 hC
      go_wp2_with (first
        | (refine wpList_load_mid rfl 65 (.tmp 17) rfl g (off + k * 4) rfl cs _ HR.out Try.underlying65 rfl (by rw [hlen2]; exact Try.infoHouse) ?_; rw [← HCC.out])
        | (refine wpList_var_arr HZ (by rw [hlen]; exact Try.infoHouse) (by rw [hZs, hlen]) HONE.out rfl rfl rfl (.tmp 8) (.tmp 18) rfl rfl rfl ?_)
        | (refine wpList_load_arr Try.underlying65 rfl (by rw [hlen]; exact Try.infoHouse) rfl (.tmp 8) rfl wr.heap.size rfl HNEW.out ?_))
      refine HC.out.mono ?_
      rintro e w4 ⟨a4, n4, c4, rfl, h4⟩
      have H4 := Lib.hid h4
      clear h4
      go_wp2_with fail
      go_roundw
      case rel =>
        (repeat apply Exists.intro)
        exact LisR.step HX.out H4.out
      case measure => simp [intOf]; omega
    · obtain rfl : k = n := by omega
      go_wp2
      go_ret
      have h9 := H3.out
      rw [show l.take k = l from List.take_of_length_le (by have := HN.out; omega)] at h9
      exact (HB.out.trans (Keep.refl _ _) h9).puts

end Go.Proofs.Ytmibepjfbapbdaa.Cd

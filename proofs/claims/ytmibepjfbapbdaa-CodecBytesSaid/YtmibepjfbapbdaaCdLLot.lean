/- codec: Lots behind a buffer. -/
import Derived.Test.YtmibepjfbapbdaaCdC
namespace Go.Proofs.Ytmibepjfbapbdaa.Cd
open Go.RowKit Go.Proofs.Ytmibepjfbapbdaa
set_option maxRecDepth 100000

theorem zLot : ∃ Z : Array Value, Hid (∀ w : World, (zeroValue 67).run Try.prog w = .ok (.agg Z) w) ∧ Z.size = 7 :=
  ⟨#[.int .i64 0, .int .i64 0, strVal "", .int .i64 0, .int .i64 0, strVal "", .int .i64 0], Lib.hid (fun w => by kernel_rfl), rfl⟩

theorem putLot_e : PutE 31 eLot struct_ := by
  intro N w0 w v bs h Pb hP x cs hx hok hl
  obtain ⟨id, thing, seller, min, bid, bidder, ends⟩ := x
  have e : cs = [.int .i64 id, .int .i64 thing, .string seller, .int .i64 min, .int .i64 bid, .string bidder, .int .i64 ends] := hx
  subst e
  clear hP hx
  have e : eLot.c.enc (id, thing, seller, min, bid, bidder, ends) = encN id ++ (encN thing ++ (cT.enc seller ++ (encN min ++ (encN bid ++ (cT.enc bidder ++ (encN ends)))))) := rfl
  rw [e] at hl ⊢
  clear e
  rw [show bs ++ (encN id ++ (encN thing ++ (cT.enc seller ++ (encN min ++ (encN bid ++ (cT.enc bidder ++ (encN ends))))))) = bs ++ encN id ++ encN thing ++ cT.enc seller ++ encN min ++ encN bid ++ cT.enc bidder ++ encN ends by simp only [List.append_assoc]]
  simp only [List.length_append] at hl
  have HL := Lib.hid hl
  obtain ⟨okid, okthing, okseller, okmin, okbid, okbidder, okends⟩ := hok
  have OKid : Hid (okN id) := Lib.hid okid
  have OKthing : Hid (okN thing) := Lib.hid okthing
  have OKseller : Hid (seller.size < 2147483648) := Lib.hid okseller
  have OKmin : Hid (okN min) := Lib.hid okmin
  have OKbid : Hid (okN bid) := Lib.hid okbid
  have OKbidder : Hid (bidder.size < 2147483648) := Lib.hid okbidder
  have OKends : Hid (okN ends) := Lib.hid okends
  have HB := Lib.hid h
  have H0 : Hid (Out (own v) (w.alloc (.cells #[.int .i64 id, .int .i64 thing, .string seller, .int .i64 min, .int .i64 bid, .string bidder, .int .i64 ends] 67)) (w.alloc (.cells #[.int .i64 id, .int .i64 thing, .string seller, .int .i64 min, .int .i64 bid, .string bidder, .int .i64 ends] 67)) v bs) := Lib.hid (h.alloc _).here
  obtain ⟨ab, nb, cb, rfl⟩ := h.slice
  clear h hl okid okthing okseller okmin okbid okbidder okends
  unfold struct_
  go_enter Try.func31, Try.ntmps31
  go_wp2_with fail
  refine (putNumber_any H0.out OKid.out (by have := HL.out; (try simp only [List.length_append]); omega)).mono ?_
  rintro e w1 ⟨a1, n1, q1, rfl, h1⟩
  have H1 := Lib.hid h1
  clear h1
  have c1 := HB.out.box H1.out 1 rfl
  go_wp2_with fail
  refine (putNumber_any H1.out OKthing.out (by have := HL.out; (try simp only [List.length_append]); omega)).mono ?_
  rintro e w2 ⟨a2, n2, q2, rfl, h2⟩
  have H2 := Lib.hid h2
  clear h2 c1
  have c2 := HB.out.box H2.out 2 rfl
  go_wp2_with fail
  refine (putText_any H2.out seller OKseller.out (by have := HL.out; (try simp only [List.length_append]); omega)).mono ?_
  rintro e w3 ⟨a3, n3, q3, rfl, h3⟩
  have H3 := Lib.hid h3
  clear h3 c2
  have c3 := HB.out.box H3.out 3 rfl
  go_wp2_with fail
  refine (putNumber_any H3.out OKmin.out (by have := HL.out; (try simp only [List.length_append]); omega)).mono ?_
  rintro e w4 ⟨a4, n4, q4, rfl, h4⟩
  have H4 := Lib.hid h4
  clear h4 c3
  have c4 := HB.out.box H4.out 4 rfl
  go_wp2_with fail
  refine (putNumber_any H4.out OKbid.out (by have := HL.out; (try simp only [List.length_append]); omega)).mono ?_
  rintro e w5 ⟨a5, n5, q5, rfl, h5⟩
  have H5 := Lib.hid h5
  clear h5 c4
  have c5 := HB.out.box H5.out 5 rfl
  go_wp2_with fail
  refine (putText_any H5.out bidder OKbidder.out (by have := HL.out; (try simp only [List.length_append]); omega)).mono ?_
  rintro e w6 ⟨a6, n6, q6, rfl, h6⟩
  have H6 := Lib.hid h6
  clear h6 c5
  have c6 := HB.out.box H6.out 6 rfl
  go_wp2_with fail
  refine (putNumber_any H6.out OKends.out (by have := HL.out; (try simp only [List.length_append]); omega)).mono ?_
  rintro e w7 ⟨a7, n7, q7, rfl, h7⟩
  have H7 := Lib.hid h7
  clear h7 c6
  go_wp2
  go_ret
  exact (HB.out.trans ((Keep.refl (fun _ => False) w).alloc _) H7.out).puts

theorem Try.enPutLot : ∀ args w, (callFunc 31 args).run Try.prog w = .ok (.enter 31 args) w := enters_of Try.func31 (by kernel_rfl) rfl

theorem putListLot_any {N : Nat → Prop} {w0 w : World} {v : Value} {bs : List UInt8} (h : Out N w0 w v bs) {Pb : Nat → Prop} (hP : ∀ g, Pb g → g < w.heap.size ∧ v.ownBlock ≠ some g) {lv : Value} {l : List _} (hL : LAt eLot Pb w lv l)
    (hok : (cList eLot.c).ok l) (hl : bs.length + ((cList eLot.c).enc l).length ≤ lim) : Calls Try.prog 30 #[v, lv, .func (.func 31) #[] #[]] w (Puts N w0 (bs ++ (cList eLot.c).enc l)) := by
  have e : (cList eLot.c).enc l = encL l.length ++ l.flatMap eLot.c.enc := rfl
  rw [e, List.length_append] at hl
  rw [e, ← List.append_assoc]
  clear e
  obtain ⟨Z, HZ, hZs⟩ := zLot
  have HB := Lib.hid h
  have HQ := Lib.hid (putLength_any h.here l.length hok.1 (by omega))
  have HO := Lib.hid hok.2
  have HPP := Lib.hid hP
  have HLA := Lib.hid hL
  have HLL := Lib.hid hl
  obtain ⟨al, cl, rfl, _⟩ := hL.slice
  obtain ⟨ab, nb, cb, rfl⟩ := h.slice
  obtain ⟨n, hn⟩ : ∃ n, n = l.length := ⟨_, rfl⟩
  have HN := Lib.hid hn
  have hn1 : (n : Int) ≤ 2147483647 := by have := hok.1; omega
  rw [← hn] at HQ HLA HLL ⊢
  clear h hl hok hP hL hn
  go_enter Try.func30, Try.ntmps30
  go_wp2_with fail
  refine HQ.out.mono ?_
  rintro e w2 ⟨a2, n2, c2, rfl, h2⟩
  have H2 := Lib.hid h2
  clear h2
  go_wp2_with fail
  go_loopw [0, 15] (fun v i wr => LisR eLot w (.slice ab nb cb) (bs ++ encL n) l v i wr) (fun _ i _ => n - (intOf i).toNat)
  case atStart => exact ⟨0, by omega, rfl, _, _, _, rfl, by simpa using H2.out⟩
  case round =>
    obtain ⟨k, hk, rfl, a3, n3, c3, rfl, h3⟩ := hrel.ex
    clear hrel
    have H3 := Lib.hid h3
    clear h3
    rw [← HN.out] at hk
    by_cases hlt : k < n
    · have hlt1 : (k : Int) < (n : Int) := by omega
      obtain ⟨x, hx⟩ : ∃ x, l[k]? = some x := ⟨_, List.getElem?_eq_getElem (by have := HN.out; omega)⟩
      obtain ⟨g, off, cs, rfl, _, _, hH, hr⟩ := (H3.out.laid HPP.out HLA.out).get k x hx
      have HLI := Lib.hid (list_len (E := eLot) hx)
      have H5 : Hid (Out (own (.slice ab nb cb)) w (wr.alloc (.cells cs.toArray 67)) (.slice a3 n3 c3) (bs ++ encL n ++ (l.take k).flatMap eLot.c.enc)) := Lib.hid (H3.out.alloc _)
      have hH5 : eLot.H Pb (wr.alloc (.cells cs.toArray 67)) x cs := eLot.keep ((Keep.refl (fun _ => False) wr).alloc _) (fun _ _ _ h => h) hH
      have HC := Lib.hid (putLot_e H5.out (H5.out.apart HPP.out) hH5 (HO.out x (List.mem_of_getElem? hx)) (by rw [List.length_append, List.length_append]; have := HLI.out; have := HLL.out; omega))
      unfold struct_ at HC
      have hlen : cs.toArray.size = 7 := by rw [List.size_toArray]; exact eLot.len hH
      have hlen2 : cs.length = 7 := eLot.len hH
      have HONE : Hid (cs.toArray.all (·.oneCell') = true) := Lib.hid (by
        rw [Array.all_eq_true_iff_forall_mem]; intro u hu; exact eLot.one hH u (by simpa using hu))
      have HR := Lib.hid hr
      have hen := Try.enPutLot
      have HX := Lib.hid hx
      have HNEW := Lib.hid (heap_alloc_new wr (.cells cs.toArray 67))
      obtain ⟨C, hC⟩ : ∃ C, C = cs.toArray := ⟨_, rfl⟩
      have HCC := Lib.hid hC
      rw [← hC] at HC HNEW HONE hlen
      clear hH hr hx hH5 H5 hC
      go_wp2_with (first
        | (refine wpList_load_mid rfl 67 (.tmp 17) rfl g (off + k * 7) rfl cs _ HR.out Try.underlying67 rfl (by rw [hlen2]; exact Try.infoLot) ?_; rw [← HCC.out])
        | (refine wpList_var_arr HZ (by rw [hlen]; exact Try.infoLot) (by rw [hZs, hlen]) HONE.out rfl rfl rfl (.tmp 8) (.tmp 18) rfl rfl rfl ?_)
        | (refine wpList_load_arr Try.underlying67 rfl (by rw [hlen]; exact Try.infoLot) rfl (.tmp 8) rfl wr.heap.size rfl HNEW.out ?_))
      refine HC.out.mono ?_
      rintro e w4 ⟨a4, n4, c4, rfl, h4⟩
      have H4 := Lib.hid h4
      clear h4
      go_wp2_with fail
      go_roundw
      case rel =>
        (repeat apply Exists.intro)
        exact LisR.step HX.out H4.out
      case measure => simp [intOf]; omega
    · obtain rfl : k = n := by omega
      go_wp2
      go_ret
      have h9 := H3.out
      rw [show l.take k = l from List.take_of_length_le (by have := HN.out; omega)] at h9
      exact (HB.out.trans (Keep.refl _ _) h9).puts

end Go.Proofs.Ytmibepjfbapbdaa.Cd

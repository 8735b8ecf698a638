/- codec: Chars behind a buffer. -/
import Derived.Test.YtmibepjfbapbdaaCdC
namespace Go.Proofs.Ytmibepjfbapbdaa.Cd
open Go.RowKit Go.Proofs.Ytmibepjfbapbdaa
set_option maxRecDepth 100000

theorem zChar : ∃ Z : Array Value, Hid (∀ w : World, (zeroValue 58).run Try.prog w = .ok (.agg Z) w) ∧ Z.size = 10 :=
  ⟨#[strVal "", strVal "", .bool false, .int .i64 0, .int .i64 0, .int .i64 0, .int .i64 0, .int .i64 0, .int .i64 0, .slice none 0 0], Lib.hid (fun w => by kernel_rfl), rfl⟩

theorem putChar_e : PutE 23 eChar struct_ := by
  intro N w0 w v bs h Pb hP x cs hx hok hl
  obtain ⟨name, hash, on, room, hp, xp, gold, bank, foe, done⟩ := x
  obtain ⟨dv, hL, rfl⟩ := hx
  have HPP := Lib.hid hP
  have HLA := Lib.hid hL
  have e : eChar.c.enc (name, hash, on, room, hp, xp, gold, bank, foe, done) = cT.enc name ++ (cT.enc hash ++ (cB.enc on ++ (encN room ++ (encN hp ++ (encN xp ++ (encN gold ++ (encN bank ++ (encN foe ++ ((cList eI.c).enc done))))))))) := rfl
  rw [e] at hl ⊢
  clear e
  rw [show bs ++ (cT.enc name ++ (cT.enc hash ++ (cB.enc on ++ (encN room ++ (encN hp ++ (encN xp ++ (encN gold ++ (encN bank ++ (encN foe ++ ((cList eI.c).enc done)))))))))) = bs ++ cT.enc name ++ cT.enc hash ++ cB.enc on ++ encN room ++ encN hp ++ encN xp ++ encN gold ++ encN bank ++ encN foe ++ (cList eI.c).enc done by simp only [List.append_assoc]]
  simp only [List.length_append] at hl
  have HL := Lib.hid hl
  obtain ⟨okname, okhash, okon, okroom, okhp, okxp, okgold, okbank, okfoe, okdone⟩ := hok
  have OKname : Hid (name.size < 2147483648) := Lib.hid okname
  have OKhash : Hid (hash.size < 2147483648) := Lib.hid okhash
  have OKroom : Hid (okN room) := Lib.hid okroom
  have OKhp : Hid (okN hp) := Lib.hid okhp
  have OKxp : Hid (okN xp) := Lib.hid okxp
  have OKgold : Hid (okN gold) := Lib.hid okgold
  have OKbank : Hid (okN bank) := Lib.hid okbank
  have OKfoe : Hid (okN foe) := Lib.hid okfoe
  have OKdone := Lib.hid okdone
  have HB := Lib.hid h
  have H0 : Hid (Out (own v) (w.alloc (.cells #[.string name, .string hash, .bool on, .int .i64 room, .int .i64 hp, .int .i64 xp, .int .i64 gold, .int .i64 bank, .int .i64 foe, dv] 58)) (w.alloc (.cells #[.string name, .string hash, .bool on, .int .i64 room, .int .i64 hp, .int .i64 xp, .int .i64 gold, .int .i64 bank, .int .i64 foe, dv] 58)) v bs) := Lib.hid (h.alloc _).here
  obtain ⟨ab, nb, cb, rfl⟩ := h.slice
  obtain ⟨ad, cd, rfl, _⟩ := hL.slice
  clear h hl okname okhash okon okroom okhp okxp okgold okbank okfoe okdone hP hL
  unfold struct_
  go_enter Try.func23, Try.ntmps23
  go_wp2_with fail
  refine (putText_any H0.out name OKname.out (by have := HL.out; (try simp only [List.length_append]); omega)).mono ?_
  rintro e w1 ⟨a1, n1, q1, rfl, h1⟩
  have H1 := Lib.hid h1
  clear h1
  have c1 := HB.out.box H1.out 1 rfl
  go_wp2_with fail
  refine (putText_any H1.out hash OKhash.out (by have := HL.out; (try simp only [List.length_append]); omega)).mono ?_
  rintro e w2 ⟨a2, n2, q2, rfl, h2⟩
  have H2 := Lib.hid h2
  clear h2 c1
  have c2 := HB.out.box H2.out 2 rfl
  go_wp2_with fail
  refine (putBool_any H2.out on (by have := HL.out; have hb : (cB.enc on).length = 1 := rfl; (try simp only [List.length_append]); omega)).mono ?_
  rintro e w3 ⟨a3, n3, q3, rfl, h3⟩
  have H3 := Lib.hid h3
  clear h3 c2
  have c3 := HB.out.box H3.out 3 rfl
  go_wp2_with fail
  refine (putInt_any H3.out OKroom.out (by have := HL.out; (try simp only [List.length_append]); omega)).mono ?_
  rintro e w4 ⟨a4, n4, q4, rfl, h4⟩
  have H4 := Lib.hid h4
  clear h4 c3
  have c4 := HB.out.box H4.out 4 rfl
  go_wp2_with fail
  refine (putNumber_any H4.out OKhp.out (by have := HL.out; (try simp only [List.length_append]); omega)).mono ?_
  rintro e w5 ⟨a5, n5, q5, rfl, h5⟩
  have H5 := Lib.hid h5
  clear h5 c4
  have c5 := HB.out.box H5.out 5 rfl
  go_wp2_with fail
  refine (putNumber_any H5.out OKxp.out (by have := HL.out; (try simp only [List.length_append]); omega)).mono ?_
  rintro e w6 ⟨a6, n6, q6, rfl, h6⟩
  have H6 := Lib.hid h6
  clear h6 c5
  have c6 := HB.out.box H6.out 6 rfl
  go_wp2_with fail
  refine (putNumber_any H6.out OKgold.out (by have := HL.out; (try simp only [List.length_append]); omega)).mono ?_
  rintro e w7 ⟨a7, n7, q7, rfl, h7⟩
  have H7 := Lib.hid h7
  clear h7 c6
  have c7 := HB.out.box H7.out 7 rfl
  go_wp2_with fail
  refine (putNumber_any H7.out OKbank.out (by have := HL.out; (try simp only [List.length_append]); omega)).mono ?_
  rintro e w8 ⟨a8, n8, q8, rfl, h8⟩
  have H8 := Lib.hid h8
  clear h8 c7
  have c8 := HB.out.box H8.out 8 rfl
  go_wp2_with fail
  refine (putNumber_any H8.out OKfoe.out (by have := HL.out; (try simp only [List.length_append]); omega)).mono ?_
  rintro e w9 ⟨a9, n9, q9, rfl, h9⟩
  have H9 := Lib.hid h9
  clear h9 c8
  have c9 := HB.out.box H9.out 9 rfl
  go_wp2_with fail
  refine (putListInt_any H9.out (HB.out.within H9.out HPP.out HLA.out).1 (HB.out.within H9.out HPP.out HLA.out).2 OKdone.out (by have := HL.out; (try simp only [List.length_append]); omega)).mono ?_
  rintro e w10 ⟨a10, n10, q10, rfl, h10⟩
  have H10 := Lib.hid h10
  clear h10 c9
  go_wp2
  go_ret
  exact (HB.out.trans ((Keep.refl (fun _ => False) w).alloc _) H10.out).puts

theorem Try.enPutChar : ∀ args w, (callFunc 23 args).run Try.prog w = .ok (.enter 23 args) w := enters_of Try.func23 (by kernel_rfl) rfl

theorem putListChar_any {N : Nat → Prop} {w0 w : World} {v : Value} {bs : List UInt8} (h : Out N w0 w v bs) {Pb : Nat → Prop} (hP : ∀ g, Pb g → g < w.heap.size ∧ v.ownBlock ≠ some g) {lv : Value} {l : List _} (hL : LAt eChar Pb w lv l)
    (hok : (cList eChar.c).ok l) (hl : bs.length + ((cList eChar.c).enc l).length ≤ lim) : Calls Try.prog 22 #[v, lv, .func (.func 23) #[] #[]] w (Puts N w0 (bs ++ (cList eChar.c).enc l)) := by
  have e : (cList eChar.c).enc l = encL l.length ++ l.flatMap eChar.c.enc := rfl
  rw [e, List.length_append] at hl
  rw [e, ← List.append_assoc]
  clear e
  obtain ⟨Z, HZ, hZs⟩ := zChar
  have HB := Lib.hid h
  have HQ := Lib.hid (putLength_any h.here l.length hok.1 (by omega))
  have HO := Lib.hid hok.2
  have HPP := Lib.hid hP
  have HLA := Lib.hid hL
  have HLL := Lib.hid hl
  obtain ⟨al, cl, rfl, _⟩ := hL.slice
  obtain ⟨ab, nb, cb, rfl⟩ := h.slice
  obtain ⟨n, hn⟩ : ∃ n, n = l.length := ⟨_, rfl⟩
  have HN := Lib.hid hn
  have hn1 : (n : Int) ≤ 2147483647 := by have := hok.1; omega
  rw [← hn] at HQ HLA HLL ⊢
  clear h hl hok hP hL hn
  go_enter Try.func22, Try.ntmps22
  go_wp2_with fail
  refine HQ.out.mono ?_
  rintro e w2 ⟨a2, n2, c2, rfl, h2⟩
  have H2 := Lib.hid h2
  clear h2
  go_wp2_with fail
  go_loopw [0, 15] (fun v i wr => LisR eChar w (.slice ab nb cb) (bs ++ encL n) l v i wr) (fun _ i _ => n - (intOf i).toNat)
  case atStart => exact ⟨0, by omega, rfl, _, _, _, rfl, by simpa using H2.out⟩
  case round =>
    obtain ⟨k, hk, rfl, a3, n3, c3, rfl, h3⟩ := hrel.ex
    clear hrel
    have H3 := Lib.hid h3
    clear h3
    rw [← HN.out] at hk
    by_cases hlt : k < n
    · have hlt1 : (k : Int) < (n : Int) := by omega
      obtain ⟨x, hx⟩ : ∃ x, l[k]? = some x := ⟨_, List.getElem?_eq_getElem (by have := HN.out; omega)⟩
      obtain ⟨g, off, cs, rfl, _, _, hH, hr⟩ := (H3.out.laid HPP.out HLA.out).get k x hx
      have HLI := Lib.hid (list_len (E := eChar) hx)
      have H5 : Hid (Out (own (.slice ab nb cb)) w (wr.alloc (.cells cs.toArray 58)) (.slice a3 n3 c3) (bs ++ encL n ++ (l.take k).flatMap eChar.c.enc)) := Lib.hid (H3.out.alloc _)
      have hH5 : eChar.H Pb (wr.alloc (.cells cs.toArray 58)) x cs := eChar.keep ((Keep.refl (fun _ => False) wr).alloc _) (fun _ _ _ h => h) hH
      have HC := Lib.hid (putChar_e H5.out (H5.out.apart HPP.out) hH5 (HO.out x (List.mem_of_getElem? hx)) (by rw [List.length_append, List.length_append]; have := HLI.out; have := HLL.out; omega))
      unfold struct_ at HC
      have hlen : cs.toArray.size = 10 := by rw [List.size_toArray]; exact eChar.len hH
      have hlen2 : cs.length = 10 := eChar.len hH
      have HONE : Hid (cs.toArray.all (·.oneCell') = true) := Lib.hid (by
        rw [Array.all_eq_true_iff_forall_mem]; intro u hu; exact eChar.one hH u (by simpa using hu))
      have HR := Lib.hid hr
      have hen := Try.enPutChar
      have HX := Lib.hid hx
      have HNEW := Lib.hid (heap_alloc_new wr (.cells cs.toArray 58))
      obtain ⟨C, hC⟩ : ∃ C, C = cs.toArray := ⟨_, rfl⟩
      have HCC := Lib.hid hC
      rw [← hC] at HC HNEW HONE hlen
      clear hH hr hx hH5 H5 hC
      go_wp2_with (first
        | (refine wpList_load_mid rfl 58 (.tmp 17) rfl g (off + k * 10) rfl cs _ HR.out Try.underlying58 rfl (by rw [hlen2]; exact Try.infoChar) ?_; rw [← HCC.out])
        | (refine wpList_var_arr HZ (by rw [hlen]; exact Try.infoChar) (by rw [hZs, hlen]) HONE.out rfl rfl rfl (.tmp 8) (.tmp 18) rfl rfl rfl ?_)
        | (refine wpList_load_arr Try.underlying58 rfl (by rw [hlen]; exact Try.infoChar) rfl (.tmp 8) rfl wr.heap.size rfl HNEW.out ?_))
      refine HC.out.mono ?_
      rintro e w4 ⟨a4, n4, c4, rfl, h4⟩
      have H4 := Lib.hid h4
      clear h4
      go_wp2_with fail
      go_roundw
      case rel =>
        (repeat apply Exists.intro)
        exact LisR.step HX.out H4.out
      case measure => simp [intOf]; omega
    · obtain rfl : k = n := by omega
      go_wp2
      go_ret
      have h9 := H3.out
      rw [show l.take k = l from List.take_of_length_le (by have := HN.out; omega)] at h9
      exact (HB.out.trans (Keep.refl _ _) h9).puts

end Go.Proofs.Ytmibepjfbapbdaa.Cd

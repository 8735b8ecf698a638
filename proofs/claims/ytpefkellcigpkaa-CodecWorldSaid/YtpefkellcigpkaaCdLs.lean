/- codec: Tills behind a buffer. -/
import Derived.Test.YtpefkellcigpkaaCdC
namespace Go.Proofs.Ytpefkellcigpkaa.Cd
open Go.RowKit Go.Proofs.Ytpefkellcigpkaa
set_option maxRecDepth 100000

theorem zTill : ∃ Z : Array Value, Hid (∀ w : World, (zeroValue 81).run Try.prog w = .ok (.agg Z) w) ∧ Z.size = 2 :=
  ⟨#[.int .i64 0, .int .i64 0], Lib.hid (fun w => by kernel_rfl), rfl⟩

theorem putTill_e : PutE 33 eTill struct_ := by
  intro N w0 w v bs h Pb hP x cs hx hok hl
  obtain ⟨room, gold⟩ := x
  have e : cs = [.int .i64 room, .int .i64 gold] := hx
  subst e
  clear hP hx
  have e : eTill.c.enc (room, gold) = encN room ++ (encN gold) := rfl
  rw [e] at hl ⊢
  clear e
  rw [show bs ++ (encN room ++ (encN gold)) = bs ++ encN room ++ encN gold by simp only [List.append_assoc]]
  simp only [List.length_append] at hl
  have HL := Lib.hid hl
  obtain ⟨okroom, okgold⟩ := hok
  have OKroom : Hid (okN room) := Lib.hid okroom
  have OKgold : Hid (okN gold) := Lib.hid okgold
  have HB := Lib.hid h
  have H0 : Hid (Out (own v) (w.alloc (.cells #[.int .i64 room, .int .i64 gold] 81)) (w.alloc (.cells #[.int .i64 room, .int .i64 gold] 81)) v bs) := Lib.hid (h.alloc _).here
  obtain ⟨ab, nb, cb, rfl⟩ := h.slice
  clear h hl okroom okgold
  unfold struct_
  go_enter Try.func33, Try.ntmps33
  go_wp2_with fail
  refine (putInt_any H0.out OKroom.out (by have := HL.out; (try simp only [List.length_append]); omega)).mono ?_
  rintro e w1 ⟨a1, n1, q1, rfl, h1⟩
  have H1 := Lib.hid h1
  clear h1
  have c1 := HB.out.box H1.out 1 rfl
  go_wp2_with fail
  refine (putNumber_any H1.out OKgold.out (by have := HL.out; (try simp only [List.length_append]); omega)).mono ?_
  rintro e w2 ⟨a2, n2, q2, rfl, h2⟩
  have H2 := Lib.hid h2
  clear h2 c1
  go_wp2
  go_ret
  exact (HB.out.trans ((Keep.refl (fun _ => False) w).alloc _) H2.out).puts

theorem Try.enPutTill : ∀ args w, (callFunc 33 args).run Try.prog w = .ok (.enter 33 args) w := enters_of Try.func33 (by kernel_rfl) rfl

theorem putListTill_any {N : Nat → Prop} {w0 w : World} {v : Value} {bs : List UInt8} (h : Out N w0 w v bs) {Pb : Nat → Prop} (hP : ∀ g, Pb g → g < w.heap.size ∧ v.ownBlock ≠ some g) {lv : Value} {l : List _} (hL : LAt eTill Pb w lv l)
    (hok : (cList eTill.c).ok l) (hl : bs.length + ((cList eTill.c).enc l).length ≤ lim) : Calls Try.prog 32 #[v, lv, .func (.func 33) #[] #[]] w (Puts N w0 (bs ++ (cList eTill.c).enc l)) := by
  have e : (cList eTill.c).enc l = encL l.length ++ l.flatMap eTill.c.enc := rfl
  rw [e, List.length_append] at hl
  rw [e, ← List.append_assoc]
  clear e
  obtain ⟨Z, HZ, hZs⟩ := zTill
  have HB := Lib.hid h
  have HQ := Lib.hid (putLength_any h.here l.length hok.1 (by omega))
  have HO := Lib.hid hok.2
  have HPP := Lib.hid hP
  have HLA := Lib.hid hL
  have HLL := Lib.hid hl
  obtain ⟨al, cl, rfl, _⟩ := hL.slice
  obtain ⟨ab, nb, cb, rfl⟩ := h.slice
  obtain ⟨n, hn⟩ : ∃ n, n = l.length := ⟨_, rfl⟩
  have HN := Lib.hid hn
  have hn1 : (n : Int) ≤ 2147483647 := by have := hok.1; omega
  rw [← hn] at HQ HLA HLL ⊢
  clear h hl hok hP hL hn
  go_enter Try.func32, Try.ntmps32
  go_wp2_with fail
  refine HQ.out.mono ?_
  rintro e w2 ⟨a2, n2, c2, rfl, h2⟩
  have H2 := Lib.hid h2
  clear h2
  go_wp2_with fail
  go_loopw [0, 15] (fun v i wr => LisR eTill w (.slice ab nb cb) (bs ++ encL n) l v i wr) (fun _ i _ => n - (intOf i).toNat)
  case atStart => exact ⟨0, by omega, rfl, _, _, _, rfl, by simpa using H2.out⟩
  case round =>
    obtain ⟨k, hk, rfl, a3, n3, c3, rfl, h3⟩ := hrel.ex
    clear hrel
    have H3 := Lib.hid h3
    clear h3
    rw [← HN.out] at hk
    by_cases hlt : k < n
    · have hlt1 : (k : Int) < (n : Int) := by omega
      obtain ⟨x, hx⟩ : ∃ x, l[k]? = some x := ⟨_, List.getElem?_eq_getElem (by have := HN.out; omega)⟩
      obtain ⟨g, off, cs, rfl, _, _, hH, hr⟩ := (H3.out.laid HPP.out HLA.out).get k x hx
      have HLI := Lib.hid (list_len (E := eTill) hx)
      have H5 : Hid (Out (own (.slice ab nb cb)) w (wr.alloc (.cells cs.toArray 81)) (.slice a3 n3 c3) (bs ++ encL n ++ (l.take k).flatMap eTill.c.enc)) := Lib.hid (H3.out.alloc _)
      have hH5 : eTill.H Pb (wr.alloc (.cells cs.toArray 81)) x cs := eTill.keep ((Keep.refl (fun _ => False) wr).alloc _) (fun _ _ _ h => h) hH
      have HC := Lib.hid (putTill_e H5.out (H5.out.apart HPP.out) hH5 (HO.out x (List.mem_of_getElem? hx)) (by rw [List.length_append, List.length_append]; have := HLI.out; have := HLL.out; omega))
      unfold struct_ at HC
      have hlen : cs.toArray.size = 2 := by rw [List.size_toArray]; exact eTill.len hH
      have hlen2 : cs.length = 2 := eTill.len hH
      have HONE : Hid (cs.toArray.all (·.oneCell') = true) := Lib.hid (by
        rw [Array.all_eq_true_iff_forall_mem]; intro u hu; exact eTill.one hH u (by simpa using hu))
      have HR := Lib.hid hr
      have hen := Try.enPutTill
      have HX := Lib.hid hx
      have HNEW := Lib.hid (heap_alloc_new wr (.cells cs.toArray 81))
      obtain ⟨C, hC⟩ : ∃ C, C = cs.toArray := ⟨_, rfl⟩
      have HCC := Lib.hid hC
      rw [← hC] at HC HNEW HONE hlen
      clear hH hr hx hH5 H5 hC
      go_wp2_with (first
        | (refine wpList_load_mid rfl 81 (.tmp 17) rfl g (off + k * 2) rfl cs _ HR.out Try.underlying81 rfl (by rw [hlen2]; exact Try.infoTill) ?_; rw [← HCC.out])
        | (refine wpList_var_arr HZ (by rw [hlen]; exact Try.infoTill) (by rw [hZs, hlen]) HONE.out rfl rfl rfl (.tmp 8) (.tmp 18) rfl rfl rfl ?_)
        | (refine wpList_load_arr Try.underlying81 rfl (by rw [hlen]; exact Try.infoTill) rfl (.tmp 8) rfl wr.heap.size rfl HNEW.out ?_))
      refine HC.out.mono ?_
      rintro e w4 ⟨a4, n4, c4, rfl, h4⟩
      have H4 := Lib.hid h4
      clear h4
      go_wp2_with fail
      go_roundw
      case rel =>
        (repeat apply Exists.intro)
        exact LisR.step HX.out H4.out
      case measure => simp [intOf]; omega
    · obtain rfl : k = n := by omega
      go_wp2
      go_ret
      have h9 := H3.out
      rw [show l.take k = l from List.take_of_length_le (by have := HN.out; omega)] at h9
      exact (HB.out.trans (Keep.refl _ _) h9).puts

end Go.Proofs.Ytpefkellcigpkaa.Cd
/- codec: Mobs behind a buffer. -/
namespace Go.Proofs.Ytpefkellcigpkaa.Cd
open Go.RowKit Go.Proofs.Ytpefkellcigpkaa
set_option maxRecDepth 100000

theorem zMob : ∃ Z : Array Value, Hid (∀ w : World, (zeroValue 54).run Try.prog w = .ok (.agg Z) w) ∧ Z.size = 4 :=
  ⟨#[.int .i64 0, .int .i64 0, .int .i64 0, .int .i64 0], Lib.hid (fun w => by kernel_rfl), rfl⟩

theorem putMob_e : PutE 27 eMob struct_ := by
  intro N w0 w v bs h Pb hP x cs hx hok hl
  obtain ⟨id, proto, room, hp⟩ := x
  have e : cs = [.int .i64 id, .int .i64 proto, .int .i64 room, .int .i64 hp] := hx
  subst e
  clear hP hx
  have e : eMob.c.enc (id, proto, room, hp) = encN id ++ (encN proto ++ (encN room ++ (encN hp))) := rfl
  rw [e] at hl ⊢
  clear e
  rw [show bs ++ (encN id ++ (encN proto ++ (encN room ++ (encN hp)))) = bs ++ encN id ++ encN proto ++ encN room ++ encN hp by simp only [List.append_assoc]]
  simp only [List.length_append] at hl
  have HL := Lib.hid hl
  obtain ⟨okid, okproto, okroom, okhp⟩ := hok
  have OKid : Hid (okN id) := Lib.hid okid
  have OKproto : Hid (okN proto) := Lib.hid okproto
  have OKroom : Hid (okN room) := Lib.hid okroom
  have OKhp : Hid (okN hp) := Lib.hid okhp
  have HB := Lib.hid h
  have H0 : Hid (Out (own v) (w.alloc (.cells #[.int .i64 id, .int .i64 proto, .int .i64 room, .int .i64 hp] 54)) (w.alloc (.cells #[.int .i64 id, .int .i64 proto, .int .i64 room, .int .i64 hp] 54)) v bs) := Lib.hid (h.alloc _).here
  obtain ⟨ab, nb, cb, rfl⟩ := h.slice
  clear h hl okid okproto okroom okhp
  unfold struct_
  go_enter Try.func27, Try.ntmps27
  go_wp2_with fail
  refine (putNumber_any H0.out OKid.out (by have := HL.out; (try simp only [List.length_append]); omega)).mono ?_
  rintro e w1 ⟨a1, n1, q1, rfl, h1⟩
  have H1 := Lib.hid h1
  clear h1
  have c1 := HB.out.box H1.out 1 rfl
  go_wp2_with fail
  refine (putInt_any H1.out OKproto.out (by have := HL.out; (try simp only [List.length_append]); omega)).mono ?_
  rintro e w2 ⟨a2, n2, q2, rfl, h2⟩
  have H2 := Lib.hid h2
  clear h2 c1
  have c2 := HB.out.box H2.out 2 rfl
  go_wp2_with fail
  refine (putInt_any H2.out OKroom.out (by have := HL.out; (try simp only [List.length_append]); omega)).mono ?_
  rintro e w3 ⟨a3, n3, q3, rfl, h3⟩
  have H3 := Lib.hid h3
  clear h3 c2
  have c3 := HB.out.box H3.out 3 rfl
  go_wp2_with fail
  refine (putNumber_any H3.out OKhp.out (by have := HL.out; (try simp only [List.length_append]); omega)).mono ?_
  rintro e w4 ⟨a4, n4, q4, rfl, h4⟩
  have H4 := Lib.hid h4
  clear h4 c3
  go_wp2
  go_ret
  exact (HB.out.trans ((Keep.refl (fun _ => False) w).alloc _) H4.out).puts

theorem Try.enPutMob : ∀ args w, (callFunc 27 args).run Try.prog w = .ok (.enter 27 args) w := enters_of Try.func27 (by kernel_rfl) rfl

theorem putListMob_any {N : Nat → Prop} {w0 w : World} {v : Value} {bs : List UInt8} (h : Out N w0 w v bs) {Pb : Nat → Prop} (hP : ∀ g, Pb g → g < w.heap.size ∧ v.ownBlock ≠ some g) {lv : Value} {l : List _} (hL : LAt eMob Pb w lv l)
    (hok : (cList eMob.c).ok l) (hl : bs.length + ((cList eMob.c).enc l).length ≤ lim) : Calls Try.prog 26 #[v, lv, .func (.func 27) #[] #[]] w (Puts N w0 (bs ++ (cList eMob.c).enc l)) := by
  have e : (cList eMob.c).enc l = encL l.length ++ l.flatMap eMob.c.enc := rfl
  rw [e, List.length_append] at hl
  rw [e, ← List.append_assoc]
  clear e
  obtain ⟨Z, HZ, hZs⟩ := zMob
  have HB := Lib.hid h
  have HQ := Lib.hid (putLength_any h.here l.length hok.1 (by omega))
  have HO := Lib.hid hok.2
  have HPP := Lib.hid hP
  have HLA := Lib.hid hL
  have HLL := Lib.hid hl
  obtain ⟨al, cl, rfl, _⟩ := hL.slice
  obtain ⟨ab, nb, cb, rfl⟩ := h.slice
  obtain ⟨n, hn⟩ : ∃ n, n = l.length := ⟨_, rfl⟩
  have HN := Lib.hid hn
  have hn1 : (n : Int) ≤ 2147483647 := by have := hok.1; omega
  rw [← hn] at HQ HLA HLL ⊢
  clear h hl hok hP hL hn
  go_enter Try.func26, Try.ntmps26
  go_wp2_with fail
  refine HQ.out.mono ?_
  rintro e w2 ⟨a2, n2, c2, rfl, h2⟩
  have H2 := Lib.hid h2
  clear h2
  go_wp2_with fail
  go_loopw [0, 15] (fun v i wr => LisR eMob w (.slice ab nb cb) (bs ++ encL n) l v i wr) (fun _ i _ => n - (intOf i).toNat)
  case atStart => exact ⟨0, by omega, rfl, _, _, _, rfl, by simpa using H2.out⟩
  case round =>
    obtain ⟨k, hk, rfl, a3, n3, c3, rfl, h3⟩ := hrel.ex
    clear hrel
    have H3 := Lib.hid h3
    clear h3
    rw [← HN.out] at hk
    by_cases hlt : k < n
    · have hlt1 : (k : Int) < (n : Int) := by omega
      obtain ⟨x, hx⟩ : ∃ x, l[k]? = some x := ⟨_, List.getElem?_eq_getElem (by have := HN.out; omega)⟩
      obtain ⟨g, off, cs, rfl, _, _, hH, hr⟩ := (H3.out.laid HPP.out HLA.out).get k x hx
      have HLI := Lib.hid (list_len (E := eMob) hx)
      have H5 : Hid (Out (own (.slice ab nb cb)) w (wr.alloc (.cells cs.toArray 54)) (.slice a3 n3 c3) (bs ++ encL n ++ (l.take k).flatMap eMob.c.enc)) := Lib.hid (H3.out.alloc _)
      have hH5 : eMob.H Pb (wr.alloc (.cells cs.toArray 54)) x cs := eMob.keep ((Keep.refl (fun _ => False) wr).alloc _) (fun _ _ _ h => h) hH
      have HC := Lib.hid (putMob_e H5.out (H5.out.apart HPP.out) hH5 (HO.out x (List.mem_of_getElem? hx)) (by rw [List.length_append, List.length_append]; have := HLI.out; have := HLL.out; omega))
      unfold struct_ at HC
      have hlen : cs.toArray.size = 4 := by rw [List.size_toArray]; exact eMob.len hH
      have hlen2 : cs.length = 4 := eMob.len hH
      have HONE : Hid (cs.toArray.all (·.oneCell') = true) := Lib.hid (by
        rw [Array.all_eq_true_iff_forall_mem]; intro u hu; exact eMob.one hH u (by simpa using hu))
      have HR := Lib.hid hr
      have hen := Try.enPutMob
      have HX := Lib.hid hx
      have HNEW := Lib.hid (heap_alloc_new wr (.cells cs.toArray 54))
      obtain ⟨C, hC⟩ : ∃ C, C = cs.toArray := ⟨_, rfl⟩
      have HCC := Lib.hid hC
      rw [← hC] at HC HNEW HONE hlen
      clear hH hr hx hH5 H5 hC
      go_wp2_with (first
        | (refine wpList_load_mid rfl 54 (.tmp 17) rfl g (off + k * 4) rfl cs _ HR.out Try.underlying54 rfl (by rw [hlen2]; exact Try.infoMob) ?_; rw [← HCC.out])
        | (refine wpList_var_arr HZ (by rw [hlen]; exact Try.infoMob) (by rw [hZs, hlen]) HONE.out rfl rfl rfl (.tmp 8) (.tmp 18) rfl rfl rfl ?_)
        | (refine wpList_load_arr Try.underlying54 rfl (by rw [hlen]; exact Try.infoMob) rfl (.tmp 8) rfl wr.heap.size rfl HNEW.out ?_))
      refine HC.out.mono ?_
      rintro e w4 ⟨a4, n4, c4, rfl, h4⟩
      have H4 := Lib.hid h4
      clear h4
      go_wp2_with fail
      go_roundw
      case rel =>
        (repeat apply Exists.intro)
        exact LisR.step HX.out H4.out
      case measure => simp [intOf]; omega
    · obtain rfl : k = n := by omega
      go_wp2
      go_ret
      have h9 := H3.out
      rw [show l.take k = l from List.take_of_length_le (by have := HN.out; omega)] at h9
      exact (HB.out.trans (Keep.refl _ _) h9).puts

end Go.Proofs.Ytpefkellcigpkaa.Cd
/- codec: Things behind a buffer. -/
namespace Go.Proofs.Ytpefkellcigpkaa.Cd
open Go.RowKit Go.Proofs.Ytpefkellcigpkaa
set_option maxRecDepth 100000

theorem zThing : ∃ Z : Array Value, Hid (∀ w : World, (zeroValue 61).run Try.prog w = .ok (.agg Z) w) ∧ Z.size = 5 :=
  ⟨#[.int .i64 0, .int .i64 0, .int .i64 0, .int .i64 0, strVal ""], Lib.hid (fun w => by kernel_rfl), rfl⟩

theorem putThing_e : PutE 25 eThing struct_ := by
  intro N w0 w v bs h Pb hP x cs hx hok hl
  obtain ⟨id, proto, place, room, who⟩ := x
  have e : cs = [.int .i64 id, .int .i64 proto, .int .i64 place, .int .i64 room, .string who] := hx
  subst e
  clear hP hx
  have e : eThing.c.enc (id, proto, place, room, who) = encN id ++ (encN proto ++ (encN place ++ (encN room ++ (cT.enc who)))) := rfl
  rw [e] at hl ⊢
  clear e
  rw [show bs ++ (encN id ++ (encN proto ++ (encN place ++ (encN room ++ (cT.enc who))))) = bs ++ encN id ++ encN proto ++ encN place ++ encN room ++ cT.enc who by simp only [List.append_assoc]]
  simp only [List.length_append] at hl
  have HL := Lib.hid hl
  obtain ⟨okid, okproto, okplace, okroom, okwho⟩ := hok
  have OKid : Hid (okN id) := Lib.hid okid
  have OKproto : Hid (okN proto) := Lib.hid okproto
  have OKplace : Hid (okN place) := Lib.hid okplace
  have OKroom : Hid (okN room) := Lib.hid okroom
  have OKwho : Hid (who.size < 2147483648) := Lib.hid okwho
  have HB := Lib.hid h
  have H0 : Hid (Out (own v) (w.alloc (.cells #[.int .i64 id, .int .i64 proto, .int .i64 place, .int .i64 room, .string who] 61)) (w.alloc (.cells #[.int .i64 id, .int .i64 proto, .int .i64 place, .int .i64 room, .string who] 61)) v bs) := Lib.hid (h.alloc _).here
  obtain ⟨ab, nb, cb, rfl⟩ := h.slice
  clear h hl okid okproto okplace okroom okwho
  unfold struct_
  go_enter Try.func25, Try.ntmps25
  go_wp2_with fail
  refine (putNumber_any H0.out OKid.out (by have := HL.out; (try simp only [List.length_append]); omega)).mono ?_
  rintro e w1 ⟨a1, n1, q1, rfl, h1⟩
  have H1 := Lib.hid h1
  clear h1
  have c1 := HB.out.box H1.out 1 rfl
  go_wp2_with fail
  refine (putInt_any H1.out OKproto.out (by have := HL.out; (try simp only [List.length_append]); omega)).mono ?_
  rintro e w2 ⟨a2, n2, q2, rfl, h2⟩
  have H2 := Lib.hid h2
  clear h2 c1
  have c2 := HB.out.box H2.out 2 rfl
  go_wp2_with fail
  refine (putInt_any H2.out OKplace.out (by have := HL.out; (try simp only [List.length_append]); omega)).mono ?_
  rintro e w3 ⟨a3, n3, q3, rfl, h3⟩
  have H3 := Lib.hid h3
  clear h3 c2
  have c3 := HB.out.box H3.out 3 rfl
  go_wp2_with fail
  refine (putInt_any H3.out OKroom.out (by have := HL.out; (try simp only [List.length_append]); omega)).mono ?_
  rintro e w4 ⟨a4, n4, q4, rfl, h4⟩
  have H4 := Lib.hid h4
  clear h4 c3
  have c4 := HB.out.box H4.out 4 rfl
  go_wp2_with fail
  refine (putText_any H4.out who OKwho.out (by have := HL.out; (try simp only [List.length_append]); omega)).mono ?_
  rintro e w5 ⟨a5, n5, q5, rfl, h5⟩
  have H5 := Lib.hid h5
  clear h5 c4
  go_wp2
  go_ret
  exact (HB.out.trans ((Keep.refl (fun _ => False) w).alloc _) H5.out).puts

theorem Try.enPutThing : ∀ args w, (callFunc 25 args).run Try.prog w = .ok (.enter 25 args) w := enters_of Try.func25 (by kernel_rfl) rfl

theorem putListThing_any {N : Nat → Prop} {w0 w : World} {v : Value} {bs : List UInt8} (h : Out N w0 w v bs) {Pb : Nat → Prop} (hP : ∀ g, Pb g → g < w.heap.size ∧ v.ownBlock ≠ some g) {lv : Value} {l : List _} (hL : LAt eThing Pb w lv l)
    (hok : (cList eThing.c).ok l) (hl : bs.length + ((cList eThing.c).enc l).length ≤ lim) : Calls Try.prog 24 #[v, lv, .func (.func 25) #[] #[]] w (Puts N w0 (bs ++ (cList eThing.c).enc l)) := by
  have e : (cList eThing.c).enc l = encL l.length ++ l.flatMap eThing.c.enc := rfl
  rw [e, List.length_append] at hl
  rw [e, ← List.append_assoc]
  clear e
  obtain ⟨Z, HZ, hZs⟩ := zThing
  have HB := Lib.hid h
  have HQ := Lib.hid (putLength_any h.here l.length hok.1 (by omega))
  have HO := Lib.hid hok.2
  have HPP := Lib.hid hP
  have HLA := Lib.hid hL
  have HLL := Lib.hid hl
  obtain ⟨al, cl, rfl, _⟩ := hL.slice
  obtain ⟨ab, nb, cb, rfl⟩ := h.slice
  obtain ⟨n, hn⟩ : ∃ n, n = l.length := ⟨_, rfl⟩
  have HN := Lib.hid hn
  have hn1 : (n : Int) ≤ 2147483647 := by have := hok.1; omega
  rw [← hn] at HQ HLA HLL ⊢
  clear h hl hok hP hL hn
  go_enter Try.func24, Try.ntmps24
  go_wp2_with fail
  refine HQ.out.mono ?_
  rintro e w2 ⟨a2, n2, c2, rfl, h2⟩
  have H2 := Lib.hid h2
  clear h2
  go_wp2_with fail
  go_loopw [0, 15] (fun v i wr => LisR eThing w (.slice ab nb cb) (bs ++ encL n) l v i wr) (fun _ i _ => n - (intOf i).toNat)
  case atStart => exact ⟨0, by omega, rfl, _, _, _, rfl, by simpa using H2.out⟩
  case round =>
    obtain ⟨k, hk, rfl, a3, n3, c3, rfl, h3⟩ := hrel.ex
    clear hrel
    have H3 := Lib.hid h3
    clear h3
    rw [← HN.out] at hk
    by_cases hlt : k < n
    · have hlt1 : (k : Int) < (n : Int) := by omega
      obtain ⟨x, hx⟩ : ∃ x, l[k]? = some x := ⟨_, List.getElem?_eq_getElem (by have := HN.out; omega)⟩
      obtain ⟨g, off, cs, rfl, _, _, hH, hr⟩ := (H3.out.laid HPP.out HLA.out).get k x hx
      have HLI := Lib.hid (list_len (E := eThing) hx)
      have H5 : Hid (Out (own (.slice ab nb cb)) w (wr.alloc (.cells cs.toArray 61)) (.slice a3 n3 c3) (bs ++ encL n ++ (l.take k).flatMap eThing.c.enc)) := Lib.hid (H3.out.alloc _)
      have hH5 : eThing.H Pb (wr.alloc (.cells cs.toArray 61)) x cs := eThing.keep ((Keep.refl (fun _ => False) wr).alloc _) (fun _ _ _ h => h) hH
      have HC := Lib.hid (putThing_e H5.out (H5.out.apart HPP.out) hH5 (HO.out x (List.mem_of_getElem? hx)) (by rw [List.length_append, List.length_append]; have := HLI.out; have := HLL.out; omega))
      unfold struct_ at HC
      have hlen : cs.toArray.size = 5 := by rw [List.size_toArray]; exact eThing.len hH
      have hlen2 : cs.length = 5 := eThing.len hH
      have HONE : Hid (cs.toArray.all (·.oneCell') = true) := Lib.hid (by
        rw [Array.all_eq_true_iff_forall_mem]; intro u hu; exact eThing.one hH u (by simpa using hu))
      have HR := Lib.hid hr
      have hen := Try.enPutThing
      have HX := Lib.hid hx
      have HNEW := Lib.hid (heap_alloc_new wr (.cells cs.toArray 61))
      obtain ⟨C, hC⟩ : ∃ C, C = cs.toArray := ⟨_, rfl⟩
      have HCC := Lib.hid hC
      rw [← hC] at HC HNEW HONE hlen
      clear hH hr hx hH5 H5 hC
      go_wp2_with (first
        | (refine wpList_load_mid rfl 61 (.tmp 17) rfl g (off + k * 5) rfl cs _ HR.out Try.underlying61 rfl (by rw [hlen2]; exact Try.infoThing) ?_; rw [← HCC.out])
        | (refine wpList_var_arr HZ (by rw [hlen]; exact Try.infoThing) (by rw [hZs, hlen]) HONE.out rfl rfl rfl (.tmp 8) (.tmp 18) rfl rfl rfl ?_)
        | (refine wpList_load_arr Try.underlying61 rfl (by rw [hlen]; exact Try.infoThing) rfl (.tmp 8) rfl wr.heap.size rfl HNEW.out ?_))
      refine HC.out.mono ?_
      rintro e w4 ⟨a4, n4, c4, rfl, h4⟩
      have H4 := Lib.hid h4
      clear h4
      go_wp2_with fail
      go_roundw
      case rel =>
        (repeat apply Exists.intro)
        exact LisR.step HX.out H4.out
      case measure => simp [intOf]; omega
    · obtain rfl : k = n := by omega
      go_wp2
      go_ret
      have h9 := H3.out
      rw [show l.take k = l from List.take_of_length_le (by have := HN.out; omega)] at h9
      exact (HB.out.trans (Keep.refl _ _) h9).puts

end Go.Proofs.Ytpefkellcigpkaa.Cd
/- codec: Lots behind a buffer. -/
namespace Go.Proofs.Ytpefkellcigpkaa.Cd
open Go.RowKit Go.Proofs.Ytpefkellcigpkaa
set_option maxRecDepth 100000

theorem zLot : ∃ Z : Array Value, Hid (∀ w : World, (zeroValue 67).run Try.prog w = .ok (.agg Z) w) ∧ Z.size = 7 :=
  ⟨#[.int .i64 0, .int .i64 0, strVal "", .int .i64 0, .int .i64 0, strVal "", .int .i64 0], Lib.hid (fun w => by kernel_rfl), rfl⟩

theorem putLot_e : PutE 31 eLot struct_ := by
  intro N w0 w v bs h Pb hP x cs hx hok hl
  obtain ⟨id, thing, seller, min, bid, bidder, ends⟩ := x
  have e : cs = [.int .i64 id, .int .i64 thing, .string seller, .int .i64 min, .int .i64 bid, .string bidder, .int .i64 ends] := hx
  subst e
  clear hP hx
  have e : eLot.c.enc (id, thing, seller, min, bid, bidder, ends) = encN id ++ (encN thing ++ (cT.enc seller ++ (encN min ++ (encN bid ++ (cT.enc bidder ++ (encN ends)))))) := rfl
  rw [e] at hl ⊢
  clear e
  rw [show bs ++ (encN id ++ (encN thing ++ (cT.enc seller ++ (encN min ++ (encN bid ++ (cT.enc bidder ++ (encN ends))))))) = bs ++ encN id ++ encN thing ++ cT.enc seller ++ encN min ++ encN bid ++ cT.enc bidder ++ encN ends by simp only [List.append_assoc]]
  simp only [List.length_append] at hl
  have HL := Lib.hid hl
  obtain ⟨okid, okthing, okseller, okmin, okbid, okbidder, okends⟩ := hok
  have OKid : Hid (okN id) := Lib.hid okid
  have OKthing : Hid (okN thing) := Lib.hid okthing
  have OKseller : Hid (seller.size < 2147483648) := Lib.hid okseller
  have OKmin : Hid (okN min) := Lib.hid okmin
  have OKbid : Hid (okN bid) := Lib.hid okbid
  have OKbidder : Hid (bidder.size < 2147483648) := Lib.hid okbidder
  have OKends : Hid (okN ends) := Lib.hid okends
  have HB := Lib.hid h
  have H0 : Hid (Out (own v) (w.alloc (.cells #[.int .i64 id, .int .i64 thing, .string seller, .int .i64 min, .int .i64 bid, .string bidder, .int .i64 ends] 67)) (w.alloc (.cells #[.int .i64 id, .int .i64 thing, .string seller, .int .i64 min, .int .i64 bid, .string bidder, .int .i64 ends] 67)) v bs) := Lib.hid (h.alloc _).here
  obtain ⟨ab, nb, cb, rfl⟩ := h.slice
  clear h hl okid okthing okseller okmin okbid okbidder okends
  unfold struct_
  go_enter Try.func31, Try.ntmps31
  go_wp2_with fail
  refine (putNumber_any H0.out OKid.out (by have := HL.out; (try simp only [List.length_append]); omega)).mono ?_
  rintro e w1 ⟨a1, n1, q1, rfl, h1⟩
  have H1 := Lib.hid h1
  clear h1
  have c1 := HB.out.box H1.out 1 rfl
  go_wp2_with fail
  refine (putNumber_any H1.out OKthing.out (by have := HL.out; (try simp only [List.length_append]); omega)).mono ?_
  rintro e w2 ⟨a2, n2, q2, rfl, h2⟩
  have H2 := Lib.hid h2
  clear h2 c1
  have c2 := HB.out.box H2.out 2 rfl
  go_wp2_with fail
  refine (putText_any H2.out seller OKseller.out (by have := HL.out; (try simp only [List.length_append]); omega)).mono ?_
  rintro e w3 ⟨a3, n3, q3, rfl, h3⟩
  have H3 := Lib.hid h3
  clear h3 c2
  have c3 := HB.out.box H3.out 3 rfl
  go_wp2_with fail
  refine (putNumber_any H3.out OKmin.out (by have := HL.out; (try simp only [List.length_append]); omega)).mono ?_
  rintro e w4 ⟨a4, n4, q4, rfl, h4⟩
  have H4 := Lib.hid h4
  clear h4 c3
  have c4 := HB.out.box H4.out 4 rfl
  go_wp2_with fail
  refine (putNumber_any H4.out OKbid.out (by have := HL.out; (try simp only [List.length_append]); omega)).mono ?_
  rintro e w5 ⟨a5, n5, q5, rfl, h5⟩
  have H5 := Lib.hid h5
  clear h5 c4
  have c5 := HB.out.box H5.out 5 rfl
  go_wp2_with fail
  refine (putText_any H5.out bidder OKbidder.out (by have := HL.out; (try simp only [List.length_append]); omega)).mono ?_
  rintro e w6 ⟨a6, n6, q6, rfl, h6⟩
  have H6 := Lib.hid h6
  clear h6 c5
  have c6 := HB.out.box H6.out 6 rfl
  go_wp2_with fail
  refine (putNumber_any H6.out OKends.out (by have := HL.out; (try simp only [List.length_append]); omega)).mono ?_
  rintro e w7 ⟨a7, n7, q7, rfl, h7⟩
  have H7 := Lib.hid h7
  clear h7 c6
  go_wp2
  go_ret
  exact (HB.out.trans ((Keep.refl (fun _ => False) w).alloc _) H7.out).puts

theorem Try.enPutLot : ∀ args w, (callFunc 31 args).run Try.prog w = .ok (.enter 31 args) w := enters_of Try.func31 (by kernel_rfl) rfl

theorem putListLot_any {N : Nat → Prop} {w0 w : World} {v : Value} {bs : List UInt8} (h : Out N w0 w v bs) {Pb : Nat → Prop} (hP : ∀ g, Pb g → g < w.heap.size ∧ v.ownBlock ≠ some g) {lv : Value} {l : List _} (hL : LAt eLot Pb w lv l)
    (hok : (cList eLot.c).ok l) (hl : bs.length + ((cList eLot.c).enc l).length ≤ lim) : Calls Try.prog 30 #[v, lv, .func (.func 31) #[] #[]] w (Puts N w0 (bs ++ (cList eLot.c).enc l)) := by
  have e : (cList eLot.c).enc l = encL l.length ++ l.flatMap eLot.c.enc := rfl
  rw [e, List.length_append] at hl
  rw [e, ← List.append_assoc]
  clear e
  obtain ⟨Z, HZ, hZs⟩ := zLot
  have HB := Lib.hid h
  have HQ := Lib.hid (putLength_any h.here l.length hok.1 (by omega))
  have HO := Lib.hid hok.2
  have HPP := Lib.hid hP
  have HLA := Lib.hid hL
  have HLL := Lib.hid hl
  obtain ⟨al, cl, rfl, _⟩ := hL.slice
  obtain ⟨ab, nb, cb, rfl⟩ := h.slice
  obtain ⟨n, hn⟩ : ∃ n, n = l.length := ⟨_, rfl⟩
  have HN := Lib.hid hn
  have hn1 : (n : Int) ≤ 2147483647 := by have := hok.1; omega
  rw [← hn] at HQ HLA HLL ⊢
  clear h hl hok hP hL hn
  go_enter Try.func30, Try.ntmps30
  go_wp2_with fail
  refine HQ.out.mono ?_
  rintro e w2 ⟨a2, n2, c2, rfl, h2⟩
  have H2 := Lib.hid h2
  clear h2
  go_wp2_with fail
  go_loopw [0, 15] (fun v i wr => LisR eLot w (.slice ab nb cb) (bs ++ encL n) l v i wr) (fun _ i _ => n - (intOf i).toNat)
  case atStart => exact ⟨0, by omega, rfl, _, _, _, rfl, by simpa using H2.out⟩
  case round =>
    obtain ⟨k, hk, rfl, a3, n3, c3, rfl, h3⟩ := hrel.ex
    clear hrel
    have H3 := Lib.hid h3
    clear h3
    rw [← HN.out] at hk
    by_cases hlt : k < n
    · have hlt1 : (k : Int) < (n : Int) := by omega
      obtain ⟨x, hx⟩ : ∃ x, l[k]? = some x := ⟨_, List.getElem?_eq_getElem (by have := HN.out; omega)⟩
      obtain ⟨g, off, cs, rfl, _, _, hH, hr⟩ := (H3.out.laid HPP.out HLA.out).get k x hx
      have HLI := Lib.hid (list_len (E := eLot) hx)
      have H5 : Hid (Out (own (.slice ab nb cb)) w (wr.alloc (.cells cs.toArray 67)) (.slice a3 n3 c3) (bs ++ encL n ++ (l.take k).flatMap eLot.c.enc)) := Lib.hid (H3.out.alloc _)
      have hH5 : eLot.H Pb (wr.alloc (.cells cs.toArray 67)) x cs := eLot.keep ((Keep.refl (fun _ => False) wr).alloc _) (fun _ _ _ h => h) hH
      have HC := Lib.hid (putLot_e H5.out (H5.out.apart HPP.out) hH5 (HO.out x (List.mem_of_getElem? hx)) (by rw [List.length_append, List.length_append]; have := HLI.out; have := HLL.out; omega))
      unfold struct_ at HC
      have hlen : cs.toArray.size = 7 := by rw [List.size_toArray]; exact eLot.len hH
      have hlen2 : cs.length = 7 := eLot.len hH
      have HONE : Hid (cs.toArray.all (·.oneCell') = true) := Lib.hid (by
        rw [Array.all_eq_true_iff_forall_mem]; intro u hu; exact eLot.one hH u (by simpa using hu))
      have HR := Lib.hid hr
      have hen := Try.enPutLot
      have HX := Lib.hid hx
      have HNEW := Lib.hid (heap_alloc_new wr (.cells cs.toArray 67))
      obtain ⟨C, hC⟩ : ∃ C, C = cs.toArray := ⟨_, rfl⟩
      have HCC := Lib.hid hC
      rw [← hC] at HC HNEW HONE hlen
      clear hH hr hx hH5 H5 hC
      go_wp2_with (first
        | (refine wpList_load_mid rfl 67 (.tmp 17) rfl g (off + k * 7) rfl cs _ HR.out Try.underlying67 rfl (by rw [hlen2]; exact Try.infoLot) ?_; rw [← HCC.out])
        | (refine wpList_var_arr HZ (by rw [hlen]; exact Try.infoLot) (by rw [hZs, hlen]) HONE.out rfl rfl rfl (.tmp 8) (.tmp 18) rfl rfl rfl ?_)
        | (refine wpList_load_arr Try.underlying67 rfl (by rw [hlen]; exact Try.infoLot) rfl (.tmp 8) rfl wr.heap.size rfl HNEW.out ?_))
      refine HC.out.mono ?_
      rintro e w4 ⟨a4, n4, c4, rfl, h4⟩
      have H4 := Lib.hid h4
      clear h4
      go_wp2_with fail
      go_roundw
      case rel =>
        (repeat apply Exists.intro)
        exact LisR.step HX.out H4.out
      case measure => simp [intOf]; omega
    · obtain rfl : k = n := by omega
      go_wp2
      go_ret
      have h9 := H3.out
      rw [show l.take k = l from List.take_of_length_le (by have := HN.out; omega)] at h9
      exact (HB.out.trans (Keep.refl _ _) h9).puts

end Go.Proofs.Ytpefkellcigpkaa.Cd
/- codec: Houses behind a buffer. -/
namespace Go.Proofs.Ytpefkellcigpkaa.Cd
open Go.RowKit Go.Proofs.Ytpefkellcigpkaa
set_option maxRecDepth 100000

theorem zHouse : ∃ Z : Array Value, Hid (∀ w : World, (zeroValue 65).run Try.prog w = .ok (.agg Z) w) ∧ Z.size = 4 :=
  ⟨#[.int .i64 0, strVal "", .slice none 0 0, .int .i64 0], Lib.hid (fun w => by kernel_rfl), rfl⟩

theorem putHouse_e : PutE 29 eHouse struct_ := by
  intro N w0 w v bs h Pb hP x cs hx hok hl
  obtain ⟨room, owner, guests, chest⟩ := x
  obtain ⟨dv, hL, rfl⟩ := hx
  have HPP := Lib.hid hP
  have HLA := Lib.hid hL
  have e : eHouse.c.enc (room, owner, guests, chest) = encN room ++ (cT.enc owner ++ ((cList eS.c).enc guests ++ (encN chest))) := rfl
  rw [e] at hl ⊢
  clear e
  rw [show bs ++ (encN room ++ (cT.enc owner ++ ((cList eS.c).enc guests ++ (encN chest)))) = bs ++ encN room ++ cT.enc owner ++ (cList eS.c).enc guests ++ encN chest by simp only [List.append_assoc]]
  simp only [List.length_append] at hl
  have HL := Lib.hid hl
  obtain ⟨okroom, okowner, okguests, okchest⟩ := hok
  have OKroom : Hid (okN room) := Lib.hid okroom
  have OKowner : Hid (owner.size < 2147483648) := Lib.hid okowner
  have OKguests := Lib.hid okguests
  have OKchest : Hid (okN chest) := Lib.hid okchest
  have HB := Lib.hid h
  have H0 : Hid (Out (own v) (w.alloc (.cells #[.int .i64 room, .string owner, dv, .int .i64 chest] 65)) (w.alloc (.cells #[.int .i64 room, .string owner, dv, .int .i64 chest] 65)) v bs) := Lib.hid (h.alloc _).here
  obtain ⟨ab, nb, cb, rfl⟩ := h.slice
  obtain ⟨ad, cd, rfl, _⟩ := hL.slice
  clear h hl okroom okowner okguests okchest hP hL
  unfold struct_
  go_enter Try.func29, Try.ntmps29
  go_wp2_with fail
  refine (putInt_any H0.out OKroom.out (by have := HL.out; (try simp only [List.length_append]); omega)).mono ?_
  rintro e w1 ⟨a1, n1, q1, rfl, h1⟩
  have H1 := Lib.hid h1
  clear h1
  have c1 := HB.out.box H1.out 1 rfl
  go_wp2_with fail
  refine (putText_any H1.out owner OKowner.out (by have := HL.out; (try simp only [List.length_append]); omega)).mono ?_
  rintro e w2 ⟨a2, n2, q2, rfl, h2⟩
  have H2 := Lib.hid h2
  clear h2 c1
  have c2 := HB.out.box H2.out 2 rfl
  go_wp2_with fail
  refine (putListText_any H2.out (HB.out.within H2.out HPP.out HLA.out).1 (HB.out.within H2.out HPP.out HLA.out).2 OKguests.out (by have := HL.out; (try simp only [List.length_append]); omega)).mono ?_
  rintro e w3 ⟨a3, n3, q3, rfl, h3⟩
  have H3 := Lib.hid h3
  clear h3 c2
  have c3 := HB.out.box H3.out 3 rfl
  go_wp2_with fail
  refine (putNumber_any H3.out OKchest.out (by have := HL.out; (try simp only [List.length_append]); omega)).mono ?_
  rintro e w4 ⟨a4, n4, q4, rfl, h4⟩
  have H4 := Lib.hid h4
  clear h4 c3
  go_wp2
  go_ret
  exact (HB.out.trans ((Keep.refl (fun _ => False) w).alloc _) H4.out).puts

theorem Try.enPutHouse : ∀ args w, (callFunc 29 args).run Try.prog w = .ok (.enter 29 args) w := enters_of Try.func29 (by kernel_rfl) rfl

theorem putListHouse_any {N : Nat → Prop} {w0 w : World} {v : Value} {bs : List UInt8} (h : Out N w0 w v bs) {Pb : Nat → Prop} (hP : ∀ g, Pb g → g < w.heap.size ∧ v.ownBlock ≠ some g) {lv : Value} {l : List _} (hL : LAt eHouse Pb w lv l)
    (hok : (cList eHouse.c).ok l) (hl : bs.length + ((cList eHouse.c).enc l).length ≤ lim) : Calls Try.prog 28 #[v, lv, .func (.func 29) #[] #[]] w (Puts N w0 (bs ++ (cList eHouse.c).enc l)) := by
  have e : (cList eHouse.c).enc l = encL l.length ++ l.flatMap eHouse.c.enc := rfl
  rw [e, List.length_append] at hl
  rw [e, ← List.append_assoc]
  clear e
  obtain ⟨Z, HZ, hZs⟩ := zHouse
  have HB := Lib.hid h
  have HQ := Lib.hid (putLength_any h.here l.length hok.1 (by omega))
  have HO := Lib.hid hok.2
  have HPP := Lib.hid hP
  have HLA := Lib.hid hL
  have HLL := Lib.hid hl
  obtain ⟨al, cl, rfl, _⟩ := hL.slice
  obtain ⟨ab, nb, cb, rfl⟩ := h.slice
  obtain ⟨n, hn⟩ : ∃ n, n = l.length := ⟨_, rfl⟩
  have HN := Lib.hid hn
  have hn1 : (n : Int) ≤ 2147483647 := by have := hok.1; omega
  rw [← hn] at HQ HLA HLL ⊢
  clear h hl hok hP hL hn
  go_enter Try.func28, Try.ntmps28
  go_wp2_with fail
  refine HQ.out.mono ?_
  rintro e w2 ⟨a2, n2, c2, rfl, h2⟩
  have H2 := Lib.hid h2
  clear h2
  go_wp2_with fail
  go_loopw [0, 15] (fun v i wr => LisR eHouse w (.slice ab nb cb) (bs ++ encL n) l v i wr) (fun _ i _ => n - (intOf i).toNat)
  case atStart => exact ⟨0, by omega, rfl, _, _, _, rfl, by simpa using H2.out⟩
  case round =>
    obtain ⟨k, hk, rfl, a3, n3, c3, rfl, h3⟩ := hrel.ex
    clear hrel
    have H3 := Lib.hid h3
    clear h3
    rw [← HN.out] at hk
    by_cases hlt : k < n
    · have hlt1 : (k : Int) < (n : Int) := by omega
      obtain ⟨x, hx⟩ : ∃ x, l[k]? = some x := ⟨_, List.getElem?_eq_getElem (by have := HN.out; omega)⟩
      obtain ⟨g, off, cs, rfl, _, _, hH, hr⟩ := (H3.out.laid HPP.out HLA.out).get k x hx
      have HLI := Lib.hid (list_len (E := eHouse) hx)
      have H5 : Hid (Out (own (.slice ab nb cb)) w (wr.alloc (.cells cs.toArray 65)) (.slice a3 n3 c3) (bs ++ encL n ++ (l.take k).flatMap eHouse.c.enc)) := Lib.hid (H3.out.alloc _)
      have hH5 : eHouse.H Pb (wr.alloc (.cells cs.toArray 65)) x cs := eHouse.keep ((Keep.refl (fun _ => False) wr).alloc _) (fun _ _ _ h => h) hH
      have HC := Lib.hid (putHouse_e H5.out (H5.out.apart HPP.out) hH5 (HO.out x (List.mem_of_getElem? hx)) (by rw [List.length_append, List.length_append]; have := HLI.out; have := HLL.out; omega))
      unfold struct_ at HC
      have hlen : cs.toArray.size = 4 := by rw [List.size_toArray]; exact eHouse.len hH
      have hlen2 : cs.length = 4 := eHouse.len hH
      have HONE : Hid (cs.toArray.all (·.oneCell') = true) := Lib.hid (by
        rw [Array.all_eq_true_iff_forall_mem]; intro u hu; exact eHouse.one hH u (by simpa using hu))
      have HR := Lib.hid hr
      have hen := Try.enPutHouse
      have HX := Lib.hid hx
      have HNEW := Lib.hid (heap_alloc_new wr (.cells cs.toArray 65))
      obtain ⟨C, hC⟩ : ∃ C, C = cs.toArray := ⟨_, rfl⟩
      have HCC := Lib.hid hC
      rw [← hC] at HC HNEW HONE hlen
      clear hH hr hx hH5 H5 hC
      go_wp2_with (first
        | (refine wpList_load_mid rfl 65 (.tmp 17) rfl g (off + k * 4) rfl cs _ HR.out Try.underlying65 rfl (by rw [hlen2]; exact Try.infoHouse) ?_; rw [← HCC.out])
        | (refine wpList_var_arr HZ (by rw [hlen]; exact Try.infoHouse) (by rw [hZs, hlen]) HONE.out rfl rfl rfl (.tmp 8) (.tmp 18) rfl rfl rfl ?_)
        | (refine wpList_load_arr Try.underlying65 rfl (by rw [hlen]; exact Try.infoHouse) rfl (.tmp 8) rfl wr.heap.size rfl HNEW.out ?_))
      refine HC.out.mono ?_
      rintro e w4 ⟨a4, n4, c4, rfl, h4⟩
      have H4 := Lib.hid h4
      clear h4
      go_wp2_with fail
      go_roundw
      case rel =>
        (repeat apply Exists.intro)
        exact LisR.step HX.out H4.out
      case measure => simp [intOf]; omega
    · obtain rfl : k = n := by omega
      go_wp2
      go_ret
      have h9 := H3.out
      rw [show l.take k = l from List.take_of_length_le (by have := HN.out; omega)] at h9
      exact (HB.out.trans (Keep.refl _ _) h9).puts

end Go.Proofs.Ytpefkellcigpkaa.Cd
/- codec: Chars behind a buffer. -/
namespace Go.Proofs.Ytpefkellcigpkaa.Cd
open Go.RowKit Go.Proofs.Ytpefkellcigpkaa
set_option maxRecDepth 100000

theorem zChar : ∃ Z : Array Value, Hid (∀ w : World, (zeroValue 58).run Try.prog w = .ok (.agg Z) w) ∧ Z.size = 10 :=
  ⟨#[strVal "", strVal "", .bool false, .int .i64 0, .int .i64 0, .int .i64 0, .int .i64 0, .int .i64 0, .int .i64 0, .slice none 0 0], Lib.hid (fun w => by kernel_rfl), rfl⟩

theorem putChar_e : PutE 23 eChar struct_ := by
  intro N w0 w v bs h Pb hP x cs hx hok hl
  obtain ⟨name, hash, on, room, hp, xp, gold, bank, foe, done⟩ := x
  obtain ⟨dv, hL, rfl⟩ := hx
  have HPP := Lib.hid hP
  have HLA := Lib.hid hL
  have e : eChar.c.enc (name, hash, on, room, hp, xp, gold, bank, foe, done) = cT.enc name ++ (cT.enc hash ++ (cB.enc on ++ (encN room ++ (encN hp ++ (encN xp ++ (encN gold ++ (encN bank ++ (encN foe ++ ((cList eI.c).enc done))))))))) := rfl
  rw [e] at hl ⊢
  clear e
  rw [show bs ++ (cT.enc name ++ (cT.enc hash ++ (cB.enc on ++ (encN room ++ (encN hp ++ (encN xp ++ (encN gold ++ (encN bank ++ (encN foe ++ ((cList eI.c).enc done)))))))))) = bs ++ cT.enc name ++ cT.enc hash ++ cB.enc on ++ encN room ++ encN hp ++ encN xp ++ encN gold ++ encN bank ++ encN foe ++ (cList eI.c).enc done by simp only [List.append_assoc]]
  simp only [List.length_append] at hl
  have HL := Lib.hid hl
  obtain ⟨okname, okhash, okon, okroom, okhp, okxp, okgold, okbank, okfoe, okdone⟩ := hok
  have OKname : Hid (name.size < 2147483648) := Lib.hid okname
  have OKhash : Hid (hash.size < 2147483648) := Lib.hid okhash
  have OKroom : Hid (okN room) := Lib.hid okroom
  have OKhp : Hid (okN hp) := Lib.hid okhp
  have OKxp : Hid (okN xp) := Lib.hid okxp
  have OKgold : Hid (okN gold) := Lib.hid okgold
  have OKbank : Hid (okN bank) := Lib.hid okbank
  have OKfoe : Hid (okN foe) := Lib.hid okfoe
  have OKdone := Lib.hid okdone
  have HB := Lib.hid h
  have H0 : Hid (Out (own v) (w.alloc (.cells #[.string name, .string hash, .bool on, .int .i64 room, .int .i64 hp, .int .i64 xp, .int .i64 gold, .int .i64 bank, .int .i64 foe, dv] 58)) (w.alloc (.cells #[.string name, .string hash, .bool on, .int .i64 room, .int .i64 hp, .int .i64 xp, .int .i64 gold, .int .i64 bank, .int .i64 foe, dv] 58)) v bs) := Lib.hid (h.alloc _).here
  obtain ⟨ab, nb, cb, rfl⟩ := h.slice
  obtain ⟨ad, cd, rfl, _⟩ := hL.slice
  clear h hl okname okhash okon okroom okhp okxp okgold okbank okfoe okdone hP hL
  unfold struct_
  go_enter Try.func23, Try.ntmps23
  go_wp2_with fail
  refine (putText_any H0.out name OKname.out (by have := HL.out; (try simp only [List.length_append]); omega)).mono ?_
  rintro e w1 ⟨a1, n1, q1, rfl, h1⟩
  have H1 := Lib.hid h1
  clear h1
  have c1 := HB.out.box H1.out 1 rfl
  go_wp2_with fail
  refine (putText_any H1.out hash OKhash.out (by have := HL.out; (try simp only [List.length_append]); omega)).mono ?_
  rintro e w2 ⟨a2, n2, q2, rfl, h2⟩
  have H2 := Lib.hid h2
  clear h2 c1
  have c2 := HB.out.box H2.out 2 rfl
  go_wp2_with fail
  refine (putBool_any H2.out on (by have := HL.out; have hb : (cB.enc on).length = 1 := rfl; (try simp only [List.length_append]); omega)).mono ?_
  rintro e w3 ⟨a3, n3, q3, rfl, h3⟩
  have H3 := Lib.hid h3
  clear h3 c2
  have c3 := HB.out.box H3.out 3 rfl
  go_wp2_with fail
  refine (putInt_any H3.out OKroom.out (by have := HL.out; (try simp only [List.length_append]); omega)).mono ?_
  rintro e w4 ⟨a4, n4, q4, rfl, h4⟩
  have H4 := Lib.hid h4
  clear h4 c3
  have c4 := HB.out.box H4.out 4 rfl
  go_wp2_with fail
  refine (putNumber_any H4.out OKhp.out (by have := HL.out; (try simp only [List.length_append]); omega)).mono ?_
  rintro e w5 ⟨a5, n5, q5, rfl, h5⟩
  have H5 := Lib.hid h5
  clear h5 c4
  have c5 := HB.out.box H5.out 5 rfl
  go_wp2_with fail
  refine (putNumber_any H5.out OKxp.out (by have := HL.out; (try simp only [List.length_append]); omega)).mono ?_
  rintro e w6 ⟨a6, n6, q6, rfl, h6⟩
  have H6 := Lib.hid h6
  clear h6 c5
  have c6 := HB.out.box H6.out 6 rfl
  go_wp2_with fail
  refine (putNumber_any H6.out OKgold.out (by have := HL.out; (try simp only [List.length_append]); omega)).mono ?_
  rintro e w7 ⟨a7, n7, q7, rfl, h7⟩
  have H7 := Lib.hid h7
  clear h7 c6
  have c7 := HB.out.box H7.out 7 rfl
  go_wp2_with fail
  refine (putNumber_any H7.out OKbank.out (by have := HL.out; (try simp only [List.length_append]); omega)).mono ?_
  rintro e w8 ⟨a8, n8, q8, rfl, h8⟩
  have H8 := Lib.hid h8
  clear h8 c7
  have c8 := HB.out.box H8.out 8 rfl
  go_wp2_with fail
  refine (putNumber_any H8.out OKfoe.out (by have := HL.out; (try simp only [List.length_append]); omega)).mono ?_
  rintro e w9 ⟨a9, n9, q9, rfl, h9⟩
  have H9 := Lib.hid h9
  clear h9 c8
  have c9 := HB.out.box H9.out 9 rfl
  go_wp2_with fail
  refine (putListInt_any H9.out (HB.out.within H9.out HPP.out HLA.out).1 (HB.out.within H9.out HPP.out HLA.out).2 OKdone.out (by have := HL.out; (try simp only [List.length_append]); omega)).mono ?_
  rintro e w10 ⟨a10, n10, q10, rfl, h10⟩
  have H10 := Lib.hid h10
  clear h10 c9
  go_wp2
  go_ret
  exact (HB.out.trans ((Keep.refl (fun _ => False) w).alloc _) H10.out).puts

theorem Try.enPutChar : ∀ args w, (callFunc 23 args).run Try.prog w = .ok (.enter 23 args) w := enters_of Try.func23 (by kernel_rfl) rfl

theorem putListChar_any {N : Nat → Prop} {w0 w : World} {v : Value} {bs : List UInt8} (h : Out N w0 w v bs) {Pb : Nat → Prop} (hP : ∀ g, Pb g → g < w.heap.size ∧ v.ownBlock ≠ some g) {lv : Value} {l : List _} (hL : LAt eChar Pb w lv l)
    (hok : (cList eChar.c).ok l) (hl : bs.length + ((cList eChar.c).enc l).length ≤ lim) : Calls Try.prog 22 #[v, lv, .func (.func 23) #[] #[]] w (Puts N w0 (bs ++ (cList eChar.c).enc l)) := by
  have e : (cList eChar.c).enc l = encL l.length ++ l.flatMap eChar.c.enc := rfl
  rw [e, List.length_append] at hl
  rw [e, ← List.append_assoc]
  clear e
  obtain ⟨Z, HZ, hZs⟩ := zChar
  have HB := Lib.hid h
  have HQ := Lib.hid (putLength_any h.here l.length hok.1 (by omega))
  have HO := Lib.hid hok.2
  have HPP := Lib.hid hP
  have HLA := Lib.hid hL
  have HLL := Lib.hid hl
  obtain ⟨al, cl, rfl, _⟩ := hL.slice
  obtain ⟨ab, nb, cb, rfl⟩ := h.slice
  obtain ⟨n, hn⟩ : ∃ n, n = l.length := ⟨_, rfl⟩
  have HN := Lib.hid hn
  have hn1 : (n : Int) ≤ 2147483647 := by have := hok.1; omega
  rw [← hn] at HQ HLA HLL ⊢
  clear h hl hok hP hL hn
  go_enter Try.func22, Try.ntmps22
  go_wp2_with fail
  refine HQ.out.mono ?_
  rintro e w2 ⟨a2, n2, c2, rfl, h2⟩
  have H2 := Lib.hid h2
  clear h2
  go_wp2_with fail
  go_loopw [0, 15] (fun v i wr => LisR eChar w (.slice ab nb cb) (bs ++ encL n) l v i wr) (fun _ i _ => n - (intOf i).toNat)
  case atStart => exact ⟨0, by omega, rfl, _, _, _, rfl, by simpa using H2.out⟩
  case round =>
    obtain ⟨k, hk, rfl, a3, n3, c3, rfl, h3⟩ := hrel.ex
    clear hrel
    have H3 := Lib.hid h3
    clear h3
    rw [← HN.out] at hk
    by_cases hlt : k < n
    · have hlt1 : (k : Int) < (n : Int) := by omega
      obtain ⟨x, hx⟩ : ∃ x, l[k]? = some x := ⟨_, List.getElem?_eq_getElem (by have := HN.out; omega)⟩
      obtain ⟨g, off, cs, rfl, _, _, hH, hr⟩ := (H3.out.laid HPP.out HLA.out).get k x hx
      have HLI := Lib.hid (list_len (E := eChar) hx)
      have H5 : Hid (Out (own (.slice ab nb cb)) w (wr.alloc (.cells cs.toArray 58)) (.slice a3 n3 c3) (bs ++ encL n ++ (l.take k).flatMap eChar.c.enc)) := Lib.hid (H3.out.alloc _)
      have hH5 : eChar.H Pb (wr.alloc (.cells cs.toArray 58)) x cs := eChar.keep ((Keep.refl (fun _ => False) wr).alloc _) (fun _ _ _ h => h) hH
      have HC := Lib.hid (putChar_e H5.out (H5.out.apart HPP.out) hH5 (HO.out x (List.mem_of_getElem? hx)) (by rw [List.length_append, List.length_append]; have := HLI.out; have := HLL.out; omega))
      unfold struct_ at HC
      have hlen : cs.toArray.size = 10 := by rw [List.size_toArray]; exact eChar.len hH
      have hlen2 : cs.length = 10 := eChar.len hH
      have HONE : Hid (cs.toArray.all (·.oneCell') = true) := Lib.hid (by
        rw [Array.all_eq_true_iff_forall_mem]; intro u hu; exact eChar.one hH u (by simpa using hu))
      have HR := Lib.hid hr
      have hen := Try.enPutChar
      have HX := Lib.hid hx
      have HNEW := Lib.hid (heap_alloc_new wr (.cells cs.toArray 58))
      obtain ⟨C, hC⟩ : ∃ C, C = cs.toArray := ⟨_, rfl⟩
      have HCC := Lib.hid hC
      rw [← hC] at HC HNEW HONE hlen
      clear hH hr hx hH5 H5 hC
      go_wp2_with (first
        | (refine wpList_load_mid rfl 58 (.tmp 17) rfl g (off + k * 10) rfl cs _ HR.out Try.underlying58 rfl (by rw [hlen2]; exact Try.infoChar) ?_; rw [← HCC.out])
        | (refine wpList_var_arr HZ (by rw [hlen]; exact Try.infoChar) (by rw [hZs, hlen]) HONE.out rfl rfl rfl (.tmp 8) (.tmp 18) rfl rfl rfl ?_)
        | (refine wpList_load_arr Try.underlying58 rfl (by rw [hlen]; exact Try.infoChar) rfl (.tmp 8) rfl wr.heap.size rfl HNEW.out ?_))
      refine HC.out.mono ?_
      rintro e w4 ⟨a4, n4, c4, rfl, h4⟩
      have H4 := Lib.hid h4
      clear h4
      go_wp2_with fail
      go_roundw
      case rel =>
        (repeat apply Exists.intro)
        exact LisR.step HX.out H4.out
      case measure => simp [intOf]; omega
    · obtain rfl : k = n := by omega
      go_wp2
      go_ret
      have h9 := H3.out
      rw [show l.take k = l from List.take_of_length_le (by have := HN.out; omega)] at h9
      exact (HB.out.trans (Keep.refl _ _) h9).puts

end Go.Proofs.Ytpefkellcigpkaa.Cd

/- CoderGoes: of any steps (at most 60, of at most 20 counts) and any questions: an encoder that is asked for its bytes on the way, which are then written over, comes to the same bytes as one that was never asked. Its listed tables of the library are not read. No condition. -/
import Derived.Test.YtbkjfblmdilchaaDoorCSide
import Derived.Test.YtbkjfblmdilchaaDoorCArgs
import Derived.Test.YtbkjfblmdilchaaDoorCards
import Derived.Test.YtbkjfblmdilchaaDoorTie
import Derived.LaidMore
import Derived.Lay
import Derived.SevenTiedAt
import Derived.Stop.Joined
namespace Go.Proofs.YtbkjfblmdilchaaDoor.coderGoes
open Go.ChangeShapes Go.WideShapes Go.ChangeAt Go.RowKit

/-- The bytes that were told are written over. -/
def OverAt (w : World) (q n : Nat) (rest : List Value) (i : Value) (wr : World) : Prop :=
  ∃ (j : Nat) (d : List Nat), j ≤ n ∧ i = .int .i64 (j : Int) ∧ d.length = n ∧ Dig d ∧ BRow wr q d rest ∧ Chg (· = q) w wr

structure Go1 (w : World) (l : List (List Int × Int)) (g k : Nat) (v : Value) (wr : World) : Prop where
  enc : EIs wr w.heap.size g v (runIv firstIv (nats (l.take k)))
  bel : Below w.heap.size w wr
def GoAt (w : World) (l : List (List Int × Int)) (n g : Nat) (i : Value) (wr : World) : Prop :=
  ∃ (k : Nat) (v : Value), k ≤ n ∧ i = .int .i64 (k : Int) ∧ Go1 w l g k v wr

set_option maxHeartbeats 6400000 in
set_option maxRecDepth 100000 in
theorem walk (A : Option Addr) (n c : Nat) (l : List (List Int × Int)) (A2 : Option Addr) (n2 c2 : Nat) (f : Nat → Bool) (w : World) (h : Steps w A n l) (hf : Bools w A2 n2 f) :
    Calls Tryd.prog 7 #[.slice A n c, .slice A2 n2 c2] w fun e w' => e = .returned (.bool true) ∧ Below w.heap.size w w' := by
  have HS := Lib.hid h
  have HF := Lib.hid hf
  clear h hf
  go_enter Tryd.func7, Tryd.ntmps7
  go_wp2_with fail
  refine (awake_true w).mono ?_
  rintro e w1 ⟨rfl, b1⟩
  have B1 := Lib.hid b1
  clear b1
  go_wp2_with fail
  refine (great_any w1 A n c l (HS.out.below B1.out)).mono ?_
  rintro e w2 ⟨r, rfl, h2, b2⟩
  have B2 := Lib.hid (B1.out.trans (b2.mono B1.out.size))
  cases r with
  | true =>
    clear h2 b2
    go_wp2
    go_ret
    exact ⟨rfl, B2.out⟩
  | false =>
    obtain ⟨hn, hall⟩ := h2 rfl
    have HA := Lib.hid hall
    clear h2 b2 hall
    go_wp2_with fail
    refine (cnew_any w2 w.heap.size B2.out.size).mono ?_
    rintro e w3 ⟨g, v, rfl, e3, b3, _, _⟩
    have L3 := Lib.hid (show Go1 w l g 0 v w3 from ⟨e3, B2.out.trans (b3.mono B2.out.size)⟩)
    clear e3 b3
    go_wp2_with fail
    go_loopw [6] (GoAt w l n g) (fun i _ => n - (intOf i).toNat)
    case atStart => exact ⟨0, v, Nat.zero_le _, rfl, L3.out⟩
    case round =>
      obtain ⟨k, v, hk, rfl, hg⟩ := hrel
      by_cases hlt : k < n
      · obtain ⟨b, off, rfl⟩ := HS.out.ad (by omega)
        obtain ⟨p, Ai, ni, ci, hp, c0, c1, hr⟩ := (HS.out.below hg.bel).at k hlt
        have hbl : b < w.heap.size := by
          obtain ⟨p', Ai', ni', ci', _, c0', _⟩ := HS.out.at k hlt
          exact World.block_lt_of_cell? w _ c0'
        obtain ⟨cl, s⟩ := p
        obtain ⟨⟨ok, s0, s1⟩, _⟩ := HA.out _ (List.mem_of_getElem? hp)
        obtain ⟨sn, rfl⟩ : ∃ sn : Nat, s = (sn : Int) := ⟨s.toNat, by have : 0 ≤ s := s0; omega⟩
        have hsn : sn < cl.length := by have : (sn : Int) < cl.length := s1; omega
        have hx := (HA.out.take k).good
        have hkx := run_first_k (l.take k) 60 (by have := List.length_take_le k l; omega)
        have hx2 := (HA.out.take (k + 1)).good
        have hkx2 := run_first_k (l.take (k + 1)) 61 (by have := List.length_take_le (k + 1) l; omega)
        have hsu := run_succ hp
        rw [show ((sn : Int)).toNat = sn by omega] at hsu
        have he := hg.enc
        have hb := hg.bel
        generalize hX : runIv firstIv (nats (l.take k)) = x at *
        generalize hY : runIv firstIv (nats (l.take (k + 1))) = y at *
        have R := Lib.hid (⟨he, hb, hr, ok, hx, hkx, hsu⟩ : EIs wr w.heap.size g v x ∧ Below w.heap.size w wr ∧ Reads wr Ai ni (ints cl) ∧ Ok cl ∧ x.Good ∧ x.k ≤ 3 * 60 ∧ y = come x cl sn)
        have RY := Lib.hid (⟨hx2, hkx2, hY⟩ : y.Good ∧ y.k ≤ 3 * 61 ∧ runIv firstIv (nats (l.take (k + 1))) = y)
        have b1 : (k : Int) < n := by omega
        have d0 : wr.drew.cell? ⟨b, off + k * 2, none⟩ = some (.slice Ai ni ci) := c0
        have d1 : wr.drew.cell? ⟨b, off + k * 2 + 1, none⟩ = some (.int .i64 (sn : Int)) := c1
        have KM := Lib.hid (made_ok wr.drew Ai ni ci cl (hr.read ⟨1, rfl⟩) ok)
        have hbw : b < wr.drew.heap.size := Nat.lt_of_lt_of_le hbl hb.size
        clear he hb hr ok hx hkx hsu hX hp s0 s1 hg hx2 hkx2 hY
        go_wp2_with fail
        go_region_held3 (fun w' => w'.cell? ⟨b, off + k * 2, none⟩ = some (.slice Ai ni ci) ∧ w'.cell? ⟨b, off + k * 2 + 1, none⟩ = some (.int .i64 (sn : Int)))
          (first | exact ⟨f0, f1⟩ | exact ⟨e0, e1⟩ | exact ⟨d0, d1⟩)
          (first
            | (go_at_call 15; refine KM.out.mono ?_; rintro e w4 ⟨gt, q, cap, rfl, t2, b2, _, _⟩; have e0 := (b2.cell (p := ⟨b, off + k * 2, none⟩) hbw).trans d0; have e1 := (b2.cell (p := ⟨b, off + k * 2 + 1, none⟩) hbw).trans d1; have T2 := Lib.hid (⟨t2, b2⟩ : TIs w4 gt q cap cl ∧ Below wr.drew.heap.size wr.drew w4); have E2 := Lib.hid ((R.out.1.read ⟨1, rfl⟩).below b2); clear t2 b2)
            | (go_at_call 14; refine (encode_ok w4 w.heap.size g v x E2.out R.out.2.2.2.2.1 (by have := R.out.2.2.2.2.2.1; omega) gt q cap cl T2.out.1 R.out.2.2.2.1 sn hsn).mono ?_; rintro e w5 ⟨rfl, h3⟩; have b3 := h3.below E2.out; have f0 := (b3.cell (p := ⟨b, off + k * 2, none⟩) hbl).trans e0; have f1 := (b3.cell (p := ⟨b, off + k * 2 + 1, none⟩) hbl).trans e1; have H3 := Lib.hid h3; have B3 := Lib.hid b3; clear h3 b3))
        have B5 := Lib.hid (show Below w.heap.size w w5 from ((R.out.2.1.trans (Reading.below ⟨1, rfl⟩)).trans (T2.out.2.mono R.out.2.1.size)).trans B3.out)
        obtain ⟨v5, e5, _, _⟩ := H3.out
        rw [← R.out.2.2.2.2.2.2] at e5
        have E5 := Lib.hid e5
        clear e5 f0 f1 e0 e1 d0 d1
        by_cases hk2 : k < n2
        · obtain ⟨ad, hA2, hbc⟩ := HF.out (by omega)
          subst hA2
          have g5 : w5.cell? (ad.add k) = some (.bool (f k)) := (B5.out.cell (World.block_lt_of_cell? w _ (hbc k hk2))).trans (hbc k hk2)
          have t4 : (k : Int) < n2 := by omega
          have t5 : decide ((k : Int) < n2) = true := by simp; omega
          clear hbc
          cases hfk : f k
          · rw [hfk] at g5
            go_wp2_with fail
            exact ⟨⟨k + 1, v5, by omega, by go_num, ⟨by rw [RY.out.2.2]; exact E5.out, B5.out⟩⟩, by simp [intOf]; omega⟩
          · rw [hfk] at g5
            have KF := Lib.hid (finish_any w5 w.heap.size g v5 y E5.out RY.out.1 (by have := RY.out.2.1; omega))
            go_wp2_with fail
            refine KF.out.mono ?_
            rintro e w6 ⟨bb, u, rfl, ic, ow, b6⟩
            have E6 := Lib.hid (E5.out.below b6)
            have B6 := Lib.hid (B5.out.trans (b6.mono B5.out.size))
            have hlen := isCode_len RY.out.1 ic
            have hl2 : bb.length ≤ 1000 := by have := RY.out.2.1; omega
            rcases Nat.eq_zero_or_pos bb.length with hz | hz
            · obtain ⟨A6, c6, rfl, _, _⟩ := Reads.of_own ow
              rw [hz]
              clear ic ow b6 hlen hl2 hz
              go_wp2_with fail
              go_loopw [8] (fun i wr => i = .int .i64 0 ∧ wr = w6) (fun _ _ => 0)
              case atStart => exact ⟨rfl, rfl⟩
              case round =>
                obtain ⟨rfl, rfl⟩ := hrel
                go_wp2_with fail
                exact ⟨⟨k + 1, v5, by omega, by go_num, ⟨by rw [RY.out.2.2]; exact E6.out, B6.out⟩⟩, by simp [intOf]; omega⟩
            · obtain ⟨q6, cap6, rest, rfl, r6, _, _, _, hq6⟩ := own_block ow hz
              have R6 := Lib.hid (⟨r6, isCode_dig ic, hq6⟩ : BRow w6 q6 bb rest ∧ Dig bb ∧ w5.heap.size ≤ q6)
              generalize hnb : bb.length = nb at *
              have HNB := Lib.hid hnb
              clear ic ow b6 hlen r6 hq6 hnb
              go_wp2_with fail
              go_loopw [8] (OverAt w6 q6 nb rest) (fun i _ => nb - (intOf i).toNat)
              case atStart => exact ⟨0, bb, Nat.zero_le _, rfl, HNB.out, R6.out.2.1, R6.out.1, Chg.refl _ _⟩
              case round =>
                obtain ⟨j, d, hj, rfl, hdl, hdd, hrow, hch⟩ := hrel
                by_cases hjn : j < nb
                · have ck := hrow.cell j (by omega)
                  have fk := frozen_in hrow j
                  have bd := dig_at hdd j
                  generalize d.getD j 0 = z at *
                  have hzz : IntKind.u8.wrap ((z : Int) + 1) = (((z + 1) % 256 : Nat) : Int) := by rw [IntKind.wrap_u8]; omega
                  have hz2 : ((z : Int) + 1) % 256 = (((z + 1) % 256 : Nat) : Int) := by omega
                  have Z := Lib.hid (⟨hrow.set j ((z + 1) % 256) (by omega), dig_set d j ((z + 1) % 256) hdd (by omega), hdl⟩ : BRow (wr.setCell ⟨q6, j, none⟩ (.int .u8 (((z + 1) % 256 : Nat) : Int))) q6 (d.set j ((z + 1) % 256)) rest ∧ Dig (d.set j ((z + 1) % 256)) ∧ d.length = nb)
                  have C := Lib.hid (hch.set ⟨q6, j, none⟩ (.int .u8 (((z + 1) % 256 : Nat) : Int)) (by exact rfl))
                  rw [← hz2] at Z C
                  have b3 : (j : Int) < nb := by omega
                  clear hrow hch hdd hzz hz2
                  go_wp2_with fail
                  exact ⟨⟨j + 1, _, by omega, by go_num, by rw [List.length_set]; exact Z.out.2.2, Z.out.2.1, Z.out.1, C.out⟩, by simp [intOf]; omega⟩
                · have b3 : ¬ (j : Int) < nb := by omega
                  have C := Lib.hid hch
                  clear hrow hch hdd
                  go_wp2_with fail
                  have hge := R6.out.2.2
                  have e7 : EIs wr w.heap.size g v5 y := E6.out.keep C.out (fun e => by have := E5.out.lt; omega) (fun p hp e => by have := (own_lt E5.out.row p hp).2.1; omega)
                  exact ⟨⟨k + 1, v5, by omega, by go_num, ⟨by rw [RY.out.2.2]; exact e7, B6.out.trans (C.out.below B6.out.size (fun p hp => by have := B5.out.size; omega))⟩⟩, by simp [intOf]; omega⟩
        · have t4 : ¬ (k : Int) < n2 := by omega
          have t5 : decide ((k : Int) < n2) = false := by simp; omega
          go_wp2_with fail
          exact ⟨⟨k + 1, v5, by omega, by go_num, ⟨by rw [RY.out.2.2]; exact E5.out, B5.out⟩⟩, by simp [intOf]; omega⟩
      · obtain rfl : k = n := by omega
        have b1 : ¬ (k : Int) < k := by omega
        have H := Lib.hid hg
        have KC := Lib.hid (code_ok wr A k c l (HS.out.below hg.bel) HA.out hn)
        clear hg
        go_wp2_with fail
        refine KC.out.mono ?_
        rintro e w5 ⟨bb, u, rfl, ic, ow, b5⟩
        have he := H.out.enc.below b5
        have hx := (HA.out.take k).good
        have hkx := run_first_k (l.take k) 60 (by have := List.length_take_le k l; omega)
        rw [List.take_of_length_le (by rw [HS.out.1]; exact Nat.le_refl _)] at he hx hkx
        have KF := Lib.hid (finish_any w5 w.heap.size g v _ he hx (by omega))
        have B5 := Lib.hid (H.out.bel.trans (b5.mono H.out.bel.size))
        have hlen := isCode_len hx ic
        have hl2 : bb.length ≤ 1000 := by omega
        obtain ⟨A5, c5, rfl, _, r5⟩ := Reads.of_own ow
        have R5 := Lib.hid (⟨ic, r5⟩ : IsCode (runIv firstIv (nats l)) bb ∧ Reads w5 A5 bb.length (bts bb))
        clear ic ow b5 he hx hkx hlen r5
        go_wp2_with fail
        refine KF.out.mono ?_
        rintro e w6 ⟨b2, u2, rfl, ic2, ow2, b6⟩
        obtain rfl := isCode_one ic2 R5.out.1
        obtain ⟨A6, c6, rfl, _, r6⟩ := Reads.of_own ow2
        have KS := Lib.hid (same4_any w6 A6 A5 b2.length b2.length c6 c5 b2 b2 r6 (R5.out.2.below b6) (by omega) (by omega))
        rw [decide_eq_true (rfl : b2 = b2)] at KS
        have B6 := Lib.hid (B5.out.trans (b6.mono B5.out.size))
        clear ic2 ow2 r6 b6
        go_wp2_with fail
        refine KS.out.mono ?_
        rintro e w7 ⟨rfl, b7⟩
        have B7 := Lib.hid (B6.out.trans b7.below)
        clear b7
        go_wp2
        go_ret
        exact ⟨rfl, B7.out⟩

set_option maxRecDepth 100000 in
theorem lifted (os : Os) (started : os.Started) (H : Type) (enc : TypeId × Value → H) :
    ReturnsInHanded {} Tryd.checked os 7 .any (fun w args => (Rows.coderGoesSpec.pre enc Tryd.prog Tryd.f7 Rows.coderGoesRow.domain false w args ∧ laidMetH Tryd.prog Rows.coderGoesRow.laid w) ∧ sizedMet enc Tryd.prog Tryd.f7 (OpenSpec.ofChange Rows.coderGoesSpec) false w args)
      (Rows.coderGoesSpec.post enc Tryd.prog Tryd.f7 false true false false) := by
  refine returnsInHanded_of_change_and (C := Tryd.checked) (X := fun w _ => laidMetH Tryd.prog Rows.coderGoesRow.laid w) (fun _ _ _ hh h => h.of_heap hh) own_knob started (by kernel_rfl) Tryd.func7
    (ChangeSpec.witness_shaped (enc := enc) (C := Tryd.checked) (os := os) (X := fun w _ => laidMetH Tryd.prog Rows.coderGoesRow.laid w) false (World.laidAll Tryd.prog os Rows.coderGoesRow.laid) #[.slice none 0 0, .slice none 0 0] 8 (World.laidAll_os _ _ _)
      (World.shaped_of_ZipB (by kernel_rfl) (by kernel_rfl)) (by kernel_rfl) (by kernel_rfl) (by kernel_rfl)
      (by rw [MakeChecks.laidMetH_plain _ _ _ (by kernel_rfl)]; exact laidMet_laidAll _ (by kernel_rfl) (by kernel_rfl))) ?_
  intro W base args ds gs before hval0 hW hc _ _ _
  have hval : ∀ (j : Nat) t v, Tryd.f7.params[j]? = some t → args[j]? = some v → Value.okWide Tryd.prog W .any base t v := hval0
  have hW' := hW
  obtain ⟨p, q, hA0, hV, rfl, _, _⟩ := hW
  have hA : DataW.TrodAll enc Tryd.prog W 0 (fun _ => true) true Tryd.f7.params.toList args.toList ds p := hA0
  rw [Tryd.params7] at hA hval
  obtain ⟨v0, vs0, d0, ds0, p0, q0, hargs, rfl, rfl, h0, r0⟩ := trodAll_cons hA
  obtain ⟨v1, vs1, d1, ds1, p1, q1, rfl, rfl, rfl, h1, r1⟩ := trodAll_cons r0
  obtain ⟨rfl, rfl, rfl⟩ := trodAll_nil r1
  obtain rfl : args = #[v0, v1] := by cases args; simp_all
  obtain ⟨rfl, rfl⟩ := trodVars_none hV
  have lt0 : ∀ x ∈ p0, x.block < W.heap.size := by obtain ⟨m, hm⟩ := h0; exact DataW.trod_lt m _ _ _ hm
  obtain ⟨a0, len0, cap0, rfl⟩ := okWide_slice Tryd.underlying22 (hval 0 22 v0 rfl rfl)
  obtain ⟨xs0, hr0⟩ := arg_steps h0
  have lt1 : ∀ x ∈ p1, x.block < W.heap.size := by obtain ⟨m, hm⟩ := h1; exact DataW.trod_lt m _ _ _ hm
  obtain ⟨a1, len1, cap1, rfl⟩ := okWide_slice Tryd.underlying52 (hval 1 52 v1 rfl rfl)
  obtain ⟨xs1, hr1⟩ := arg_bools h1
  clear hA0 hval0
  refine (walk a0 len0 cap0 xs0 a1 len1 cap1 xs1 W hr0 hr1).mono fun e W' ⟨he, bel⟩ => ?_
  subst he
  exact ⟨_, rfl, _, _, _, [], _, [], hW', trodAll_mk1 (shut_bool Tryd.underlying4 _), (trodAll_cons_mk (Below.trod laid_out (by kernel_rfl) (of_decide_eq_true (by kernel_rfl)) h0 bel lt0) (trodAll_cons_mk (Below.trod laid_out (by kernel_rfl) (of_decide_eq_true (by kernel_rfl)) h1 bel lt1) trodAll_mk0)), rfl, bel.frame _, fun h => by cases h⟩

theorem over : Rows.CoderGoesSaid :=
  OpenClaim.holds_of_wide 7 Tryd.f7 rfl rfl rfl rfl rfl rfl rfl ⟨rfl, rfl, rfl, rfl, rfl⟩ rfl rfl rfl rfl rfl (by kernel_rfl) Tryd.func7 (by kernel_rfl)
    (of_decide_eq_true (by kernel_rfl)) (by unfold Func.isWrapper; first | (rw [if_pos (by decide +kernel)]; kernel_rfl) | (rw [if_neg (by decide +kernel)]; exact ⟨rfl, rfl⟩))
    (fun os started H enc _ => lifted os started H enc)

theorem plain (f : FuncId) (fn : Func) (hf : Tryd.pinned.checked.prog.funcNamed "gypsum/gypsumlaw04.CoderGoes" = some f) (hfn : Tryd.pinned.checked.prog.funcs[f]? = some fn) :
    false = Tryd.pinned.checked.prog.looks [] ∧ ∀ (j : Nat) t, fn.params[j]? = some t → Tryd.pinned.checked.prog.wantsStandIn t = false := by
  obtain rfl : f = 7 := Option.some.inj ((show Tryd.prog.funcNamed "gypsum/gypsumlaw04.CoderGoes" = some 7 by kernel_rfl).symm.trans hf) |>.symm
  obtain rfl : fn = Tryd.f7 := (Option.some.inj (Tryd.func7.symm.trans hfn)).symm
  refine ⟨by kernel_rfl, fun j t ht => ?_⟩
  rw [Tryd.params7] at ht
  have hm : t ∈ [22, 52] := by simpa using Array.mem_of_getElem? ht
  have hall : ([22, 52].all fun u => !Tryd.prog.wantsStandIn u) = true := by kernel_rfl
  exact (show Tryd.prog.wantsStandIn t = false by simpa using List.all_eq_true.1 hall t hm)

theorem proved : Rows.CoderGoesCardSaid :=
  Claim7.holds_tied_plain_at .later [] _ _ _ _ over (fun _ h => by cases h) (by kernel_rfl) (fun _ h => by cases h) coderGoes_row_tie rfl ⟨rfl, rfl⟩ (by kernel_rfl) rfl plain (by kernel_rfl)
end Go.Proofs.YtbkjfblmdilchaaDoor.coderGoes

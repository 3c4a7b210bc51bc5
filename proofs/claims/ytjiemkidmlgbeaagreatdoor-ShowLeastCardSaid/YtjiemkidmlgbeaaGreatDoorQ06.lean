/- A part of the proof: TAll2, PAllE, PRd2. No condition. -/
import Derived.ScopeJumps
import Derived.Test.YtjiemkidmlgbeaaGreatDoorQ05
set_option linter.unusedVariables false
set_option linter.unusedSimpArgs false
namespace Go.Proofs.YtjiemkidmlgbeaaGreatDoor
open Go.RowKit Tok
set_option maxRecDepth 40000 in
set_option maxHeartbeats 16000000 in
theorem All_any (s : ByteArray) (w : World) (hs : s.size ≤ 16384) (hE : ErrR w) (hS : SignsOK w) :
   Calls Tryz.prog 48 #[.string s] w fun e w' => ∃ v', e = .returned (.tuple #[v', .int .i64 (allT s.data.toList).at_, .int .i64 (allT s.data.toList).code]) ∧ TksAt w' w.heap.size v' (allT s.data.toList).toks ∧ Below w.heap.size w w' := by
 have hT0 : allT s.data.toList = allR s.data.toList 0 [] := if_neg (by rw [size_list]; omega);rw [hT0];obtain ⟨R, hR⟩ := exHid (allR s.data.toList 0 []);rw [hR.out];clear hT0;replace hE := Lib.hid hE;replace hS := Lib.hid hS;go_enter Tryz.func48, Tryz.ntmps48
 go_wp2
 go_step3
 go_wp2
 go_step3
 go_wp2
 go_loopw [2, 3, 4, 5, 6, 7, 9] (fun t2 t3 t4 _ _ _ _ wr => ∃ (n : Nat) (ts : List Tk), n ≤ s.size ∧ t3 = .int .i64 n ∧ t4 = .int .i64 0 ∧ ts.length ≤ n ∧ Hid (TksAt wr w.heap.size t2 ts) ∧ Hid (Below w.heap.size w wr) ∧ Hid (allR (s.data.toList.drop n) n ts = R)) (fun _ t3 _ _ _ _ _ _ => s.size - (intOf t3).toNat)
 case atStart => exact ⟨0, [], by omega, rfl, rfl, by simp, TksAt.nil _ _, Below.refl _ _, hR⟩
 case round =>
   obtain ⟨n, ts, hn, rfl, rfl, htn, hB, hb, hT⟩ := hrel;obtain ⟨a2, cap2, rfl, _, _⟩ := hB.out.shape;rcases Nat.lt_or_ge n s.size with hlt | hge
   · have hlti : (n : Int) < (s.size : Int) := by omega
     have hsz := hb.out.size;have hsub := sub_at hlt;have hT' := hT.out;rw [at_drop hlt] at hT';replace hT' := Lib.hid hT';go_wp2
     by_cases cb : s[n].toNat = 32 ∨ s[n].toNat = 10 ∨ s[n].toNat = 35
     · go_step3
       rcases (show s[n].toNat = 32 ∨ s[n].toNat = 10 ∨ s[n].toNat = 35 from cb) with c | c | c
       · have q32 : (((s[n].toNat : Nat) : Int) == 32) = true := by rw [c]; rfl
         have hans := Lib.hid ((allR_blank (s.data.toList.drop (n + 1)) n ts (.inl c)).symm.trans hT'.out);have hB3 := Lib.hid (hB.out.below ((Below.refl wr.heap.size wr).alloc (Nat.le_refl _) (.cells #[.int .u8 0, .string ⟨#[]⟩, .int .i64 0, .int .i64 n] 54)));have hb3 := Lib.hid (hb.out.alloc hsz (.cells #[.int .u8 0, .string ⟨#[]⟩, .int .i64 0, .int .i64 n] 54));replace c := Lib.hid c;clear cb hT hT' hsub;go_wp2
         go_roundw
         case rel =>
           first
           | exact ⟨n + 1, ts, by omega, by go_num, rfl, by omega, hB3, hb3, hans⟩
           | (refine ⟨_, _, _, _, _, _, _, _, _, _, _, _, _, _, _, _, _, _, _, _, _, _, _, _, _, _, _, _, _, _, _, _, _, _, _, _, _, _, _, _, _, _, _, _, _, _, _, _, _, _, _, _, _, _, _, _, _, _, _, _, _, _, _, _, _, _, _, _, _, _, _, _, _, _, _, _, _, _, _, _, _, _, _, _, _, _, _, _, _, _, _, _, _, _, _, _, _, _, _, _, _, _, _, _, _, _, _, _, _, _, _, _, _, _, ?_, rfl⟩; exact ⟨n + 1, ts, by omega, by go_num, rfl, by omega, hB3, hb3, hans⟩)
         case measure => simp [intOf]; omega
       · have q32 : (((s[n].toNat : Nat) : Int) == 32) = false := by rw [c]; rfl
         have q10 : (((s[n].toNat : Nat) : Int) == 10) = true := by rw [c]; rfl
         have hans := Lib.hid ((allR_blank (s.data.toList.drop (n + 1)) n ts (.inr c)).symm.trans hT'.out);have hB3 := Lib.hid (hB.out.below ((Below.refl wr.heap.size wr).alloc (Nat.le_refl _) (.cells #[.int .u8 0, .string ⟨#[]⟩, .int .i64 0, .int .i64 n] 54)));have hb3 := Lib.hid (hb.out.alloc hsz (.cells #[.int .u8 0, .string ⟨#[]⟩, .int .i64 0, .int .i64 n] 54));replace c := Lib.hid c;clear cb hT hT' hsub;go_wp2
         go_roundw
         case rel =>
           first
           | exact ⟨n + 1, ts, by omega, by go_num, rfl, by omega, hB3, hb3, hans⟩
           | (refine ⟨_, _, _, _, _, _, _, _, _, _, _, _, _, _, _, _, _, _, _, _, _, _, _, _, _, _, _, _, _, _, _, _, _, _, _, _, _, _, _, _, _, _, _, _, _, _, _, _, _, _, _, _, _, _, _, _, _, _, _, _, _, _, _, _, _, _, _, _, _, _, _, _, _, _, _, _, _, _, _, _, _, _, _, _, _, _, _, _, _, _, _, _, _, _, _, _, _, _, _, _, _, _, _, _, _, _, _, _, _, _, _, _, _, _, ?_, rfl⟩; exact ⟨n + 1, ts, by omega, by go_num, rfl, by omega, hB3, hb3, hans⟩)
         case measure => simp [intOf]; omega
       · have q32 : (((s[n].toNat : Nat) : Int) == 32) = false := by rw [c]; rfl
         have q10 : (((s[n].toNat : Nat) : Int) == 10) = false := by rw [c]; rfl
         have q35 : (((s[n].toNat : Nat) : Int) == 35) = true := by rw [c]; rfl
         have hB3 := Lib.hid (hB.out.below ((Below.refl wr.heap.size wr).alloc (Nat.le_refl _) (.cells #[.int .u8 0, .string ⟨#[]⟩, .int .i64 0, .int .i64 n] 54)));have hb3 := Lib.hid (hb.out.alloc hsz (.cells #[.int .u8 0, .string ⟨#[]⟩, .int .i64 0, .int .i64 n] 54));have hend := Lib.hid (fun (m : Nat) h1 h2 h3 h4 => ((toLine_end (s := s) (n := n) (m := m) h1 h2 h3 h4 c ts).symm.trans hT'.out));replace c := Lib.hid c;clear cb hT hT' hsub;go_wp2
         go_loop [3] (fun t3 => ∃ m : Nat, n ≤ m ∧ m < s.size ∧ t3 = .int .i64 m ∧ Hid (toLine (s.data.toList.drop (n + 1)) = toLine (s.data.toList.drop (m + 1)))) (fun t3 => s.size - (intOf t3).toNat)
         case atStart => exact ⟨n, by omega, hlt, rfl, rfl⟩
         case round =>
           obtain ⟨m, hnm, hms, rfl, hln⟩ := hrel;by_cases hM : m + 1 = s.size
           · have qm : ((m : Int) + 1 == (s.size : Int)) = true := beq_iff_eq.2 (by omega)
             have hans := Lib.hid (hend.out (m + 1) hln.out (by omega) (by omega) (.inl hM));go_wp2
             go_roundw
             case rel =>
               first
               | exact ⟨m + 1, ts, by omega, by go_num, rfl, by omega, hB3, hb3, hans⟩
               | (refine ⟨_, _, _, _, _, _, _, _, _, _, _, _, _, _, _, _, _, _, _, _, _, _, _, _, _, _, _, _, _, _, _, _, _, _, _, _, _, _, _, _, _, _, _, _, _, _, _, _, _, _, _, _, _, _, _, _, _, _, _, _, _, _, _, _, _, _, _, _, _, _, _, _, _, _, _, _, _, _, _, _, _, _, _, _, _, _, _, _, _, _, _, _, _, _, _, _, _, _, _, _, _, _, _, _, _, _, _, _, _, _, _, _, _, _, ?_, rfl⟩; exact ⟨m + 1, ts, by omega, by go_num, rfl, by omega, hB3, hb3, hans⟩)
             case measure => simp [intOf]; omega
           · have qm : ((m : Int) + 1 == (s.size : Int)) = false := beq_eq_false_iff_ne.2 (by omega)
             have hlt2 : m + 1 < s.size := by omega
             by_cases h10 : s[m + 1].toNat = 10
             · have q11 : (((s[m + 1].toNat : Nat) : Int) == 10) = true := by rw [h10]; rfl
               have hans := Lib.hid (hend.out (m + 1) hln.out (by omega) (by omega) (.inr ⟨hlt2, h10⟩));replace h10 := Lib.hid h10;go_wp2
               go_roundw
               case rel =>
                 first
                 | exact ⟨m + 1, ts, by omega, by go_num, rfl, by omega, hB3, hb3, hans⟩
                 | (refine ⟨_, _, _, _, _, _, _, _, _, _, _, _, _, _, _, _, _, _, _, _, _, _, _, _, _, _, _, _, _, _, _, _, _, _, _, _, _, _, _, _, _, _, _, _, _, _, _, _, _, _, _, _, _, _, _, _, _, _, _, _, _, _, _, _, _, _, _, _, _, _, _, _, _, _, _, _, _, _, _, _, _, _, _, _, _, _, _, _, _, _, _, _, _, _, _, _, _, _, _, _, _, _, _, _, _, _, _, _, _, _, _, _, _, _, ?_, rfl⟩; exact ⟨m + 1, ts, by omega, by go_num, rfl, by omega, hB3, hb3, hans⟩)
               case measure => simp [intOf]; omega
             · have q11 : (((s[m + 1].toNat : Nat) : Int) == 10) = false := beq_eq_false_iff_ne.2 (by omega)
               have hnx := Lib.hid (hln.out.trans (toLine_next hlt2 h10));replace h10 := Lib.hid h10;go_wp2
               go_round
               case rel => exact ⟨m + 1, by omega, by omega, by go_num, hnx⟩
               case measure => simp [intOf]; omega
     · have nb : ¬ (s[n].toNat = 32 ∨ s[n].toNat = 10) := by omega
       have n35 : s[n].toNat ≠ 35 := by omega
       refine wp_scope_jumps 1 (fun a' w' => ∃ (B k e : Nat) (hE2 : Hid (AtEnd w' w.heap.size (.slice a2 ts.length cap2) ts B (tokT (s.data.toList.drop n)) n k e ∧ Below w.heap.size w w')), a' = { tmps := #[.string s, undef, .slice a2 ts.length cap2, .int .i64 n, .int .i64 e, .pointer (some ⟨B, 0, none⟩), .int .i64 k, a'.tmps.getD 7 undef, undef, a'.tmps.getD 9 undef, .string s, .int .i64 s.size, .bool (decide ((16384 : Int) < (s.size : Int))), .int .i64 n, .string s, .int .i64 s.size, .bool true, a'.tmps.getD 17 undef, a'.tmps.getD 18 undef, a'.tmps.getD 19 undef, a'.tmps.getD 20 undef, a'.tmps.getD 21 undef, a'.tmps.getD 22 undef, a'.tmps.getD 23 undef, a'.tmps.getD 24 undef, a'.tmps.getD 25 undef, a'.tmps.getD 26 undef, a'.tmps.getD 27 undef, a'.tmps.getD 28 undef, a'.tmps.getD 29 undef, a'.tmps.getD 30 undef, a'.tmps.getD 31 undef, a'.tmps.getD 32 undef, a'.tmps.getD 33 undef, a'.tmps.getD 34 undef, a'.tmps.getD 35 undef, a'.tmps.getD 36 undef, a'.tmps.getD 37 undef, a'.tmps.getD 38 undef, a'.tmps.getD 39 undef, a'.tmps.getD 40 undef, a'.tmps.getD 41 undef, a'.tmps.getD 42 undef, a'.tmps.getD 43 undef, a'.tmps.getD 44 undef, a'.tmps.getD 45 undef, a'.tmps.getD 46 undef, a'.tmps.getD 47 undef, a'.tmps.getD 48 undef, a'.tmps.getD 49 undef, a'.tmps.getD 50 undef, a'.tmps.getD 51 undef, a'.tmps.getD 52 undef, a'.tmps.getD 53 undef, a'.tmps.getD 54 undef, a'.tmps.getD 55 undef, a'.tmps.getD 56 undef, a'.tmps.getD 57 undef, a'.tmps.getD 58 undef, a'.tmps.getD 59 undef, a'.tmps.getD 60 undef, a'.tmps.getD 61 undef, a'.tmps.getD 62 undef, a'.tmps.getD 63 undef, a'.tmps.getD 64 undef, a'.tmps.getD 65 undef, a'.tmps.getD 66 undef, a'.tmps.getD 67 undef, a'.tmps.getD 68 undef, a'.tmps.getD 69 undef, a'.tmps.getD 70 undef, a'.tmps.getD 71 undef, a'.tmps.getD 72 undef, a'.tmps.getD 73 undef, a'.tmps.getD 74 undef, a'.tmps.getD 75 undef, a'.tmps.getD 76 undef, a'.tmps.getD 77 undef, a'.tmps.getD 78 undef, a'.tmps.getD 79 undef, a'.tmps.getD 80 undef, a'.tmps.getD 81 undef, a'.tmps.getD 82 undef, a'.tmps.getD 83 undef, a'.tmps.getD 84 undef, a'.tmps.getD 85 undef, a'.tmps.getD 86 undef, a'.tmps.getD 87 undef, a'.tmps.getD 88 undef, a'.tmps.getD 89 undef, a'.tmps.getD 90 undef, a'.tmps.getD 91 undef, a'.tmps.getD 92 undef, a'.tmps.getD 93 undef, a'.tmps.getD 94 undef, a'.tmps.getD 95 undef, a'.tmps.getD 96 undef, a'.tmps.getD 97 undef, a'.tmps.getD 98 undef, a'.tmps.getD 99 undef, a'.tmps.getD 100 undef, a'.tmps.getD 101 undef, a'.tmps.getD 102 undef, a'.tmps.getD 103 undef, a'.tmps.getD 104 undef, a'.tmps.getD 105 undef, a'.tmps.getD 106 undef, a'.tmps.getD 107 undef, a'.tmps.getD 108 undef, a'.tmps.getD 109 undef, a'.tmps.getD 110 undef, a'.tmps.getD 111 undef, a'.tmps.getD 112 undef, a'.tmps.getD 113 undef, a'.tmps.getD 114 undef, a'.tmps.getD 115 undef, a'.tmps.getD 116 undef, a'.tmps.getD 117 undef, a'.tmps.getD 118 undef, a'.tmps.getD 119 undef, undef], defers := [] }) (fun _ _ => 0) (rest := ?r) ?h ?_ ?_
       case h => rfl
       · by_cases c1 : lowC s[n] = true
         · have k1 := Lib.hid (fun W => calls_at (isLetter_any s[n] W) c1)
           have kw := Lib.hid (fun W => word_any (s.extract n s.size) W (by simp; omega));have q32 : (((s[n].toNat : Nat) : Int) == 32) = false := beq_eq_false_iff_ne.2 (by omega);have q10 : (((s[n].toNat : Nat) : Int) == 10) = false := beq_eq_false_iff_ne.2 (by omega);have q35 : (((s[n].toNat : Nat) : Int) == 35) = false := beq_eq_false_iff_ne.2 (by omega);go_wp2_with fail
           refine (k1.out _).mono ?_;rintro e' w2 ⟨rfl, rfl⟩;go_wp2_with fail
           refine (kw.out _).mono ?_;rintro e' w3 ⟨rfl, hb3⟩;obtain ⟨hB3, hk3, hbel3⟩ := end_at hB.out hb.out hb3;have hc1 := (end_cell hk3 1).1;have hf1 := (end_cell hk3 1).2;simp only [List.getElem?_toArray, List.getElem?_cons_succ, List.getElem?_cons_zero] at hc1;have htok : tokT (s.data.toList.drop n) = wordT (s.data.toList.drop n) := by rw [at_drop hlt, tokT_cons, if_pos c1]
           have hset := Lib.hid (fun x => end_set hB3 hB.out hk3 hbel3 hsz 1 x);have hwr := word_res (t := s.extract n s.size) (sub_list (n := n) rfl);replace hk3 := Lib.hid hk3;replace hB3 := Lib.hid hB3;replace hbel3 := Lib.hid hbel3;rcases hwr with ⟨hr, hv⟩ | ⟨k, hr, hv⟩
           · rw [hv]
             have hres := Lib.hid (htok.trans hr);clear hv hr htok;go_wp2
             go_step3
             obtain ⟨g1, g2, g3⟩ := hset.out (.string ⟨#[]⟩);refine ⟨rfl, _, 0, 2, ⟨⟨g1, .inl ⟨hres.out, by omega⟩⟩, g3⟩, rfl⟩
           · rw [hv]
             have hres := Lib.hid (htok.trans hr);clear hv hr htok;go_wp2
             go_step3
             obtain ⟨g1, g2, g3⟩ := hset.out (.string ⟨((s.data.toList.drop n).take k).toArray⟩);refine ⟨rfl, _, k, 0, ⟨⟨g1, .inr ⟨rfl, 1, _, 0, hres.out, g2⟩⟩, g3⟩, rfl⟩
         · by_cases c2 : digC s[n] = true
           · have k1 := Lib.hid (fun W => calls_at (isLetter_any s[n] W) (Bool.eq_false_iff.2 c1))
             have k2 := Lib.hid (fun W => calls_at (isDigit_any s[n] W) c2);have kw := Lib.hid (fun W hE => number_any (s.extract n s.size) W (by simp; omega) hE (by obtain ⟨e0, e1, _⟩ := hsub; exact ⟨e0, by rw [e1]; exact c2⟩));have q32 : (((s[n].toNat : Nat) : Int) == 32) = false := beq_eq_false_iff_ne.2 (by omega);have q10 : (((s[n].toNat : Nat) : Int) == 10) = false := beq_eq_false_iff_ne.2 (by omega);have q35 : (((s[n].toNat : Nat) : Int) == 35) = false := beq_eq_false_iff_ne.2 (by omega);go_wp2_with fail
             refine (k1.out _).mono ?_;rintro e' w2 ⟨rfl, rfl⟩;go_wp2_with fail
             refine (k2.out _).mono ?_;rintro e' w2 ⟨rfl, rfl⟩;go_wp2_with fail
             refine (kw.out _ ((hE.out.below hb.out).below ((Below.refl _ wr).alloc (Nat.le_refl _) _))).mono ?_;rintro e' w3 ⟨rfl, hb3⟩;obtain ⟨hB3, hk3, hbel3⟩ := end_at hB.out hb.out hb3;have hc1 := (end_cell hk3 2).1;have hf1 := (end_cell hk3 2).2;simp only [List.getElem?_toArray, List.getElem?_cons_succ, List.getElem?_cons_zero] at hc1;have htok : tokT (s.data.toList.drop n) = numT (s.data.toList.drop n) := by rw [at_drop hlt, tokT_cons, if_neg c1, if_pos c2]
             have hset := Lib.hid (fun x => end_set hB3 hB.out hk3 hbel3 hsz 2 x);rw [sub_list (n := n) rfl];replace hk3 := Lib.hid hk3;replace hB3 := Lib.hid hB3;replace hbel3 := Lib.hid hbel3;rcases num_res (s.data.toList.drop n) with ⟨k, e, hr, he, _⟩ | ⟨x, k, hr, _⟩
             · rw [hr]
               have hres := Lib.hid (htok.trans hr);clear hr htok;unfold resV;go_wp2
               go_step3
               obtain ⟨g1, g2, g3⟩ := hset.out (.int .i64 0);refine ⟨rfl, _, k, e, ⟨⟨g1, .inl ⟨hres.out, he⟩⟩, g3⟩, rfl⟩
             · rw [hr]
               have hres := Lib.hid (htok.trans hr);clear hr htok;unfold resV;go_wp2
               go_step3
               obtain ⟨g1, g2, g3⟩ := hset.out (.int .i64 x);refine ⟨rfl, _, k, 0, ⟨⟨g1, .inr ⟨rfl, 2, _, x, hres.out, g2⟩⟩, g3⟩, rfl⟩
           · have k1 := Lib.hid (fun W => calls_at (isLetter_any s[n] W) (Bool.eq_false_iff.2 c1))
             have k2 := Lib.hid (fun W => calls_at (isDigit_any s[n] W) (Bool.eq_false_iff.2 c2));have q32 : (((s[n].toNat : Nat) : Int) == 32) = false := beq_eq_false_iff_ne.2 (by omega);have q10 : (((s[n].toNat : Nat) : Int) == 10) = false := beq_eq_false_iff_ne.2 (by omega);have q35 : (((s[n].toNat : Nat) : Int) == 35) = false := beq_eq_false_iff_ne.2 (by omega);by_cases c34 : s[n].toNat = 34
             · have q34 : (((s[n].toNat : Nat) : Int) == 34) = true := by rw [c34]; rfl
               have kw := Lib.hid (fun W => text_any (s.extract n s.size) W (by simp; omega) hsub.choose);have htok : tokT (s.data.toList.drop n) = textT (s.data.toList.drop n) := by rw [at_drop hlt, tokT_cons, if_neg c1, if_neg c2, if_pos c34]
               replace c34 := Lib.hid c34;go_wp2_with fail
               refine (k1.out _).mono ?_;rintro e' w2 ⟨rfl, rfl⟩;go_wp2_with fail
               refine (k2.out _).mono ?_;rintro e' w2 ⟨rfl, rfl⟩;go_wp2_with fail
               refine (kw.out _).mono ?_;rintro e' w3 ⟨rfl, hb3⟩;obtain ⟨hB3, hk3, hbel3⟩ := end_at hB.out hb.out hb3;have hc1 := (end_cell hk3 1).1;have hf1 := (end_cell hk3 1).2;simp only [List.getElem?_toArray, List.getElem?_cons_succ, List.getElem?_cons_zero] at hc1;have hset := Lib.hid (fun x => end_set hB3 hB.out hk3 hbel3 hsz 1 x);rw [sub_list (n := n) rfl];replace hk3 := Lib.hid hk3;replace hB3 := Lib.hid hB3;replace hbel3 := Lib.hid hbel3;rcases text_res (s.data.toList.drop n) with ⟨k, e, hr, he⟩ | ⟨tx, k, hr⟩
               · rw [hr]
                 have hres := Lib.hid (htok.trans hr);clear hr htok;unfold txtV;go_wp2
                 go_step3
                 obtain ⟨g1, g2, g3⟩ := hset.out (.string ⟨#[]⟩);refine ⟨rfl, _, k, e, ⟨⟨g1, .inl ⟨hres.out, he⟩⟩, g3⟩, rfl⟩
               · rw [hr]
                 have hres := Lib.hid (htok.trans hr);clear hr htok;unfold txtV;go_wp2
                 go_step3
                 obtain ⟨g1, g2, g3⟩ := hset.out (.string ⟨tx.toArray⟩);refine ⟨rfl, _, k, 0, ⟨⟨g1, .inr ⟨rfl, 3, tx, 0, hres.out, g2⟩⟩, g3⟩, rfl⟩
             · have q34 : (((s[n].toNat : Nat) : Int) == 34) = false := beq_eq_false_iff_ne.2 (by omega)
               have htok : tokT (s.data.toList.drop n) = signT (s.data.toList.drop n) := by rw [at_drop hlt, tokT_cons, if_neg c1, if_neg c2, if_neg c34]
               have hSg := (hS.out.below hb.out).below ((Below.refl _ wr).alloc (Nat.le_refl _) (.cells #[.int .u8 0, .string ⟨#[]⟩, .int .i64 0, .int .i64 n] 54));have s0 := hSg 0 (by omega); have s1 := hSg 1 (by omega); have s2 := hSg 2 (by omega); have s3 := hSg 3 (by omega); have s4 := hSg 4 (by omega); have s5 := hSg 5 (by omega); have s6 := hSg 6 (by omega); have s7 := hSg 7 (by omega); have s8 := hSg 8 (by omega); have s9 := hSg 9 (by omega); have s10 := hSg 10 (by omega); have s11 := hSg 11 (by omega); have s12 := hSg 12 (by omega); have s13 := hSg 13 (by omega); have s14 := hSg 14 (by omega); have s15 := hSg 15 (by omega); have s16 := hSg 16 (by omega);simp only [signs, List.getD_cons_zero, List.getD_cons_succ] at s0 s1 s2 s3 s4 s5 s6 s7 s8 s9 s10 s11 s12 s13 s14 s15 s16;clear hSg;go_wp2_with fail
               refine (k1.out _).mono ?_;rintro e' w2 ⟨rfl, rfl⟩;go_wp2_with fail
               refine (k2.out _).mono ?_;rintro e' w2 ⟨rfl, rfl⟩;go_wp2_with fail
               have hb0 := (Below.refl wr.heap.size wr).alloc (Nat.le_refl _) (.cells #[.int .u8 0, .string ⟨#[]⟩, .int .i64 0, .int .i64 n] 54);obtain ⟨hB3, hk3, hbel3⟩ := end_at hB.out hb.out (Below.refl _ (wr.alloc (.cells #[.int .u8 0, .string ⟨#[]⟩, .int .i64 0, .int .i64 n] 54)));clear s0 s1 s2 s3 s4 s5 s6 s7 s8 s9 s10 s11 s12 s13 s14 s15 s16;generalize hwq : wr.alloc (.cells #[.int .u8 0, .string ⟨#[]⟩, .int .i64 0, .int .i64 n] 54) = wq at *;replace hwq := Lib.hid hwq;go_loop [9, 86] (fun t9 t86 => ∃ j : Nat, j ≤ 17 ∧ t86 = .int .i64 j ∧ Hid (signGo (signs.drop j) (s.data.toList.drop n) = signT (s.data.toList.drop n))) (fun _ t86 => 17 - (intOf t86).toNat)
               case atStart => exact ⟨0, by omega, rfl, rfl⟩
               case round =>
                 obtain ⟨j, hj, rfl, hsg⟩ := hrel;rcases Nat.lt_or_ge j 17 with hjl | hjg
                 · have hjli : (j : Int) < 17 := by omega
                   have hix := index_sign hjl wq;unfold signsV at hix;obtain ⟨hS2, hst⟩ := sign_step hjl (s.data.toList.drop n);rw [hsg.out] at hst;generalize signs.getD j [] = S at *;have hSz : (⟨S.toArray⟩ : ByteArray).size = S.length := by simp [ByteArray.size]
                   have hSi : ((⟨S.toArray⟩ : ByteArray).size : Int) = (S.length : Int) := by rw [hSz]
                   rcases hp : S.isPrefixOf (s.data.toList.drop n) with _ | _
                   · have kp := Lib.hid (fun W => prefix_call (s.extract n s.size) S _ (sub_list (n := n) rfl) hp W)
                     rw [if_neg (by rw [hp]; simp)] at hst;replace hst := Lib.hid hst.symm;clear hp hsg;go_wp2_with fail
                     refine (kp.out _).mono ?_;rintro e' w2 ⟨rfl, rfl⟩;go_wp2
                     go_round
                     case rel => exact ⟨j + 1, by omega, by go_num, hst⟩
                     case measure => simp [intOf]; omega
                   · have kp := Lib.hid (fun W => prefix_call (s.extract n s.size) S _ (sub_list (n := n) rfl) hp W)
                     rw [if_pos hp] at hst;have hres := Lib.hid (htok.trans hst);clear hp hsg hst htok;have hc0 := (end_cell hk3 0).1;have hf0 := (end_cell hk3 0).2;simp only [List.getElem?_toArray, List.getElem?_cons_zero] at hc0;obtain ⟨g1, g2, g3⟩ := end_set hB3 hB.out hk3 hbel3 hsz 0 (.int .u8 4);have hc1 := (end_cell g2 1).1;have hf1 := (end_cell g2 1).2;simp only [List.setIfInBounds_toArray, List.set_cons_zero, List.getElem?_toArray, List.getElem?_cons_succ, List.getElem?_cons_zero] at hc1;have hfin := Lib.hid (end_set g1 hB.out g2 g3 hsz 1 (.string ⟨S.toArray⟩));replace g1 := Lib.hid g1;replace g2 := Lib.hid g2;replace g3 := Lib.hid g3;replace hB3 := Lib.hid hB3;replace hk3 := Lib.hid hk3;replace hbel3 := Lib.hid hbel3;go_wp2_with fail
                     refine (kp.out _).mono ?_;rintro e' w2 ⟨rfl, rfl⟩;go_wp2
                     go_step3
                     obtain ⟨f1, f2, f3⟩ := hfin.out;refine ⟨rfl, _, S.length, 0, ⟨⟨f1, .inr ⟨rfl, 4, S, 0, hres.out, f2⟩⟩, f3⟩, rfl⟩
                 · obtain rfl : j = 17 := by omega
                   have hno := noToken_any (s.extract n s.size) wq (by simp; omega) hsub.choose;rw [sub_list (n := n) rfl] at hno;obtain ⟨k, e, hr, he, hk⟩ := none_res (s.data.toList.drop n);rw [hr] at hno;replace hno := Lib.hid hno;rw [show signs.drop 17 = [] from rfl] at hsg;have hres := hsg.out.symm.trans (show signGo [] (s.data.toList.drop n) = .bad k e from hr);have hans := allR_bad n ts nb n35 ((at_drop hlt) ▸ htok.trans hres);rw [hT'.out] at hans;have q1 : ((e : Int) != 0) = true := by simp; omega
                   replace hans := Lib.hid hans;replace hB3 := Lib.hid hB3;replace hk3 := Lib.hid hk3;replace hbel3 := Lib.hid hbel3;clear hres hsg htok hT hT';go_wp2_with fail
                   refine hno.out.mono ?_;rintro e' w2 ⟨rfl, rfl⟩;unfold noV;go_wp2_with fail
                   go_step3
                   go_wp2
                   simp (config := { zetaDelta := true }) only [Exit.jump, Exit.inBlock, Exit.then, Exit.noGoto_ret]
                   go_ret3
                   exact ⟨_, by rw [hans.out]; rfl, by rw [hans.out]; exact TksAt.nil _ _, hbel3.out⟩
       · rintro a' w' ⟨B, k, e, hE2, ha⟩
         generalize a'.tmps.getD 7 undef = u7 at ha;generalize a'.tmps.getD 9 undef = u9 at ha;generalize a'.tmps.getD 17 undef = u17 at ha;generalize a'.tmps.getD 18 undef = u18 at ha;generalize a'.tmps.getD 19 undef = u19 at ha;generalize a'.tmps.getD 20 undef = u20 at ha;generalize a'.tmps.getD 21 undef = u21 at ha;generalize a'.tmps.getD 22 undef = u22 at ha;generalize a'.tmps.getD 23 undef = u23 at ha;generalize a'.tmps.getD 24 undef = u24 at ha;generalize a'.tmps.getD 25 undef = u25 at ha;generalize a'.tmps.getD 26 undef = u26 at ha;generalize a'.tmps.getD 27 undef = u27 at ha;generalize a'.tmps.getD 28 undef = u28 at ha;generalize a'.tmps.getD 29 undef = u29 at ha;generalize a'.tmps.getD 30 undef = u30 at ha;generalize a'.tmps.getD 31 undef = u31 at ha;generalize a'.tmps.getD 32 undef = u32 at ha;generalize a'.tmps.getD 33 undef = u33 at ha;generalize a'.tmps.getD 34 undef = u34 at ha;generalize a'.tmps.getD 35 undef = u35 at ha;generalize a'.tmps.getD 36 undef = u36 at ha;generalize a'.tmps.getD 37 undef = u37 at ha;generalize a'.tmps.getD 38 undef = u38 at ha;generalize a'.tmps.getD 39 undef = u39 at ha;generalize a'.tmps.getD 40 undef = u40 at ha;generalize a'.tmps.getD 41 undef = u41 at ha;generalize a'.tmps.getD 42 undef = u42 at ha;generalize a'.tmps.getD 43 undef = u43 at ha;generalize a'.tmps.getD 44 undef = u44 at ha;generalize a'.tmps.getD 45 undef = u45 at ha;generalize a'.tmps.getD 46 undef = u46 at ha;generalize a'.tmps.getD 47 undef = u47 at ha;generalize a'.tmps.getD 48 undef = u48 at ha;generalize a'.tmps.getD 49 undef = u49 at ha;generalize a'.tmps.getD 50 undef = u50 at ha;generalize a'.tmps.getD 51 undef = u51 at ha;generalize a'.tmps.getD 52 undef = u52 at ha;generalize a'.tmps.getD 53 undef = u53 at ha;generalize a'.tmps.getD 54 undef = u54 at ha;generalize a'.tmps.getD 55 undef = u55 at ha;generalize a'.tmps.getD 56 undef = u56 at ha;generalize a'.tmps.getD 57 undef = u57 at ha;generalize a'.tmps.getD 58 undef = u58 at ha;generalize a'.tmps.getD 59 undef = u59 at ha;generalize a'.tmps.getD 60 undef = u60 at ha;generalize a'.tmps.getD 61 undef = u61 at ha;generalize a'.tmps.getD 62 undef = u62 at ha;generalize a'.tmps.getD 63 undef = u63 at ha;generalize a'.tmps.getD 64 undef = u64 at ha;generalize a'.tmps.getD 65 undef = u65 at ha;generalize a'.tmps.getD 66 undef = u66 at ha;generalize a'.tmps.getD 67 undef = u67 at ha;generalize a'.tmps.getD 68 undef = u68 at ha;generalize a'.tmps.getD 69 undef = u69 at ha;generalize a'.tmps.getD 70 undef = u70 at ha;generalize a'.tmps.getD 71 undef = u71 at ha;generalize a'.tmps.getD 72 undef = u72 at ha;generalize a'.tmps.getD 73 undef = u73 at ha;generalize a'.tmps.getD 74 undef = u74 at ha;generalize a'.tmps.getD 75 undef = u75 at ha;generalize a'.tmps.getD 76 undef = u76 at ha;generalize a'.tmps.getD 77 undef = u77 at ha;generalize a'.tmps.getD 78 undef = u78 at ha;generalize a'.tmps.getD 79 undef = u79 at ha;generalize a'.tmps.getD 80 undef = u80 at ha
         generalize a'.tmps.getD 81 undef = u81 at ha;generalize a'.tmps.getD 82 undef = u82 at ha;generalize a'.tmps.getD 83 undef = u83 at ha;generalize a'.tmps.getD 84 undef = u84 at ha;generalize a'.tmps.getD 85 undef = u85 at ha;generalize a'.tmps.getD 86 undef = u86 at ha;generalize a'.tmps.getD 87 undef = u87 at ha;generalize a'.tmps.getD 88 undef = u88 at ha;generalize a'.tmps.getD 89 undef = u89 at ha;generalize a'.tmps.getD 90 undef = u90 at ha;generalize a'.tmps.getD 91 undef = u91 at ha;generalize a'.tmps.getD 92 undef = u92 at ha;generalize a'.tmps.getD 93 undef = u93 at ha;generalize a'.tmps.getD 94 undef = u94 at ha;generalize a'.tmps.getD 95 undef = u95 at ha;generalize a'.tmps.getD 96 undef = u96 at ha;generalize a'.tmps.getD 97 undef = u97 at ha;generalize a'.tmps.getD 98 undef = u98 at ha;generalize a'.tmps.getD 99 undef = u99 at ha;generalize a'.tmps.getD 100 undef = u100 at ha;generalize a'.tmps.getD 101 undef = u101 at ha;generalize a'.tmps.getD 102 undef = u102 at ha;generalize a'.tmps.getD 103 undef = u103 at ha;generalize a'.tmps.getD 104 undef = u104 at ha;generalize a'.tmps.getD 105 undef = u105 at ha;generalize a'.tmps.getD 106 undef = u106 at ha;generalize a'.tmps.getD 107 undef = u107 at ha;generalize a'.tmps.getD 108 undef = u108 at ha;generalize a'.tmps.getD 109 undef = u109 at ha;generalize a'.tmps.getD 110 undef = u110 at ha;generalize a'.tmps.getD 111 undef = u111 at ha;generalize a'.tmps.getD 112 undef = u112 at ha;generalize a'.tmps.getD 113 undef = u113 at ha;generalize a'.tmps.getD 114 undef = u114 at ha;generalize a'.tmps.getD 115 undef = u115 at ha;generalize a'.tmps.getD 116 undef = u116 at ha;generalize a'.tmps.getD 117 undef = u117 at ha;generalize a'.tmps.getD 118 undef = u118 at ha;generalize a'.tmps.getD 119 undef = u119 at ha;subst ha;obtain ⟨⟨hB2, hres⟩, hb2⟩ := hE2.out;have hle := tokT_le (s.data.toList.drop n);rw [List.length_drop, size_list] at hle;rcases hres with ⟨hr, he⟩ | ⟨rfl, kd, tx, x, hr, hcell⟩
         · rw [hr] at hle
           simp only at hle;rw [at_drop hlt] at hr;have hans := allR_bad n ts nb n35 hr;rw [hT'.out] at hans;have q1 : ((e : Int) != 0) = true := by simp; omega
           have hki : k ≤ 20000 := by omega
           replace hans := Lib.hid hans;clear hT hT' hr hE2 hle hsub;go_wp2
           simp (config := { zetaDelta := true }) only [Exit.jump, Exit.inBlock, Exit.then, Exit.noGoto_ret]
           go_ret3
           exact ⟨_, by rw [hans.out]; rfl, by rw [hans.out]; exact TksAt.nil _ _, hb2⟩
         · rw [hr] at hle
           simp only at hle;have hpos : 0 < k := by rw [at_drop hlt] at hr; exact tokT_pos hr
           rw [at_drop hlt] at hr;have hans := allR_tok n ts nb n35 hr;rw [hT'.out, ← at_drop hlt, List.drop_drop] at hans;replace hans := Lib.hid hans;have d0 := (end_cell hcell 0).1;have d1 := (end_cell hcell 1).1;have d2 := (end_cell hcell 2).1;have d3 := (end_cell hcell 3).1;simp only [List.getElem?_toArray, List.getElem?_cons_succ, List.getElem?_cons_zero] at d0 d1 d2 d3;have hsz2 := hb2.size;have hB3 := Lib.hid (hB2.below ((Below.refl w'.heap.size w').alloc (Nat.le_refl _) (.cells (tkC ⟨kd, tx, x, n⟩).toArray 54)));replace hb2 := Lib.hid hb2;clear hT hT' hr hE2 hsub hcell hB2;go_wp2_with (at_builtin; (refine wpList_append_tk (t := ⟨kd, tx, x, n⟩) rfl _ _ rfl rfl hB3.out rfl rfl (by omega) (by simp; omega) ?_; intro a3 cap3 w3 hB4 hO3))
           simp only [Exit.jump, Exit.inBlock];go_roundw
           case rel =>
             first
             | exact ⟨n + k, ts ++ [(⟨kd, tx, x, n⟩ : Tk)], by omega, by simp, rfl, by simp; omega, hB4, (hb2.out.alloc hsz2 _).trans hO3, hans.out.symm⟩
             | (refine ⟨_, _, _, _, _, _, _, _, _, _, _, _, _, _, _, _, _, _, _, _, _, _, _, _, _, _, _, _, _, _, _, _, _, _, _, _, _, _, _, _, _, _, _, _, _, _, _, _, _, _, _, _, _, _, _, _, _, _, _, _, _, _, _, _, _, _, _, _, _, _, _, _, _, _, _, _, _, _, _, _, _, _, _, _, _, _, _, _, _, _, _, _, _, _, _, _, _, _, _, _, _, _, _, _, _, _, _, _, _, _, _, _, _, _, ?_, rfl⟩; exact ⟨n + k, ts ++ [(⟨kd, tx, x, n⟩ : Tk)], by omega, by simp, rfl, by simp; omega, hB4, (hb2.out.alloc hsz2 _).trans hO3, hans.out.symm⟩)
           case measure => simp [intOf]; omega
   · obtain rfl : n = s.size := by omega
     have hlti : ¬ ((s.size : Int) < (s.size : Int)) := by omega
     have hT' := hT.out;rw [no_drop (Nat.le_refl _), allR_nil] at hT';replace hT' := Lib.hid hT';go_wp2
     go_ret3
     exact ⟨_, by rw [← hT'.out]; rfl, by rw [← hT'.out]; exact hB.out, hb.out⟩
end Go.Proofs.YtjiemkidmlgbeaaGreatDoor
namespace Go.Proofs.YtjiemkidmlgbeaaGreatDoor
open Go.RowKit Tok
set_option maxHeartbeats 400000 in
theorem All_long (s : ByteArray) (w : World) (hs : 16384 < s.size) (hs2 : s.size ≤ 140737488351232) :
   Calls Tryz.prog 48 #[.string s] w fun e w' => e = .returned (.tuple #[.slice none 0 0, .int .i64 0, .int .i64 2]) ∧ w' = w := by
 have h1 : (16384 : Int) < (s.size : Int) := by omega
 go_enter Tryz.func48, Tryz.ntmps48
 go_wp2
 go_step3
 go_wp2
 simp (config := { zetaDelta := true }) only [Exit.noGoto_ret]
 go_ret3
 exact ⟨rfl, rfl⟩
def AllPost (s : ByteArray) (w : World) (e : Ending) (w' : World) : Prop := ∃ v', e = .returned (.tuple #[v', .int .i64 (allT s.data.toList).at_, .int .i64 (allT s.data.toList).code]) ∧ TksAt w' w.heap.size v' (allT s.data.toList).toks ∧ Below w.heap.size w w'
theorem allT_long {s : ByteArray} (h : 16384 < s.size) : allT s.data.toList = ⟨[], 0, 2⟩ := if_pos (by rw [size_list]; exact h)
theorem All_every (s : ByteArray) (w : World) (hs : s.size ≤ 140737488351232) (hE : ErrR w) (hS : SignsOK w) : Calls Tryz.prog 48 #[.string s] w (AllPost s w) := by
 rcases Nat.lt_or_ge 16384 s.size with h | h
 · refine (All_long s w h hs).mono ?_
   rintro e w' ⟨rfl, rfl⟩;unfold AllPost;rw [allT_long h];exact ⟨_, rfl, TksAt.nil _ _, Below.refl _ _⟩
 · exact All_any s w h hE hS
end Go.Proofs.YtjiemkidmlgbeaaGreatDoor
namespace Go.Proofs.YtjiemkidmlgbeaaGreatDoor
open Go.RowKit Tok
set_option maxRecDepth 20000 in
set_option maxHeartbeats 1000000 in
theorem mark_any {w : World} {R cap n p : Nat} {a : Option Addr} {ks : List Tk} (h : PR w R a cap n ks p) :
   Calls Tryz.prog 77 #[.pointer (some ⟨R, 0, none⟩)] w fun e w' => e = .returned (.string ⟨(markT ks p).toArray⟩) ∧ Below w.heap.size w w' := by
 have c := Lib.hid (ahead_any h);rw [markT_at];generalize tkAt ks p = t at *;obtain ⟨kd, tx, nu, at_⟩ := t;unfold tkV at c;dsimp only at c ⊢;clear h;by_cases h1 : kd = 1
 · subst h1
   rw [if_pos (.inl rfl)];go_enter Tryz.func77, Tryz.ntmps77
   go_wp2_with fail
   refine c.out.mono ?_;rintro e w1 ⟨rfl, hb⟩;go_wp2_with fail
   go_ret
   exact ⟨rfl, hb.alloc hb.size _⟩
 · have q1 : ((kd : Int) == 1) = false := beq_eq_false_iff_ne.2 (by omega)
   by_cases h4 : kd = 4
   · subst h4
     rw [if_pos (.inr rfl)];go_enter Tryz.func77, Tryz.ntmps77
     go_wp2_with fail
     refine c.out.mono ?_;rintro e w1 ⟨rfl, hb⟩;go_wp2_with fail
     go_ret
     exact ⟨rfl, hb.alloc hb.size _⟩
   · have q4 : ((kd : Int) == 4) = false := beq_eq_false_iff_ne.2 (by omega)
     rw [if_neg (by rintro (c | c); exact h1 c; exact h4 c)];go_enter Tryz.func77, Tryz.ntmps77
     go_wp2_with fail
     refine c.out.mono ?_;rintro e w1 ⟨rfl, hb⟩;go_wp2_with fail
     go_ret
     exact ⟨rfl, hb.alloc hb.size _⟩
theorem tok_cell (w : World) (kd : Int) (tx : Value) (nu at_ : Int) : (w.alloc (.cells #[.int .u8 kd, tx, .int .i64 nu, .int .i64 at_] 54)).cell? ⟨w.heap.size, 1, none⟩ = some tx := by
 have h := heap_alloc_new w (.cells #[.int .u8 kd, tx, .int .i64 nu, .int .i64 at_] 54);simp only [World.cell?, h];rfl
def TookP {α : Type} (s : St α) (T : α → Value → World → Prop) (w : World) (R : Nat) (a : Option Addr) (cap n : Nat) (ks : List Tk) (e : Ending) (w' : World) : Prop :=
 match s with
 | .ok x j => (∃ v, e = .returned v ∧ T x v w') ∧ PR w' R a cap n ks j ∧ Only (fun k => k = R) w w'
 | .bad j => GaveP ks n j e ∧ Below R w w'
 | .out => True
set_option maxRecDepth 20000 in
set_option maxHeartbeats 1000000 in
theorem want_any {w : World} {R cap n p : Nat} {a : Option Addr} {ks : List Tk} (h : PR w R a cap n ks p) {m : List UInt8} (hm : m ≠ []) :
   Calls Tryz.prog 52 #[.pointer (some ⟨R, 0, none⟩), .string ⟨m.toArray⟩] w (TookP (wantT ks m p) (fun _ v _ => v = .tuple #[]) w R a cap n ks) := by
 have c := Lib.hid (mark_any h);have hlt := h.lt;unfold wantT;by_cases hq : markT ks p = m
 · rw [if_pos hq]
   have hpl : p < ks.length := by
     rcases Nat.lt_or_ge p ks.length with hl | hl
     · exact hl
     · unfold markT at hq
       rw [List.getElem?_eq_none hl] at hq;exact absurd hq.symm hm
   rw [hq] at c;have q : (m == m) = true := beq_self_eq_true _;have kl := h.kl;have hh := Lib.hid h;clear h hq;go_enter Tryz.func52, Tryz.ntmps52
   go_wp2_with fail
   refine c.out.mono ?_;rintro e w1 ⟨rfl, hb⟩;have h1 := hh.out.below hb;have d1 := h1.c1;have f1 := h1.fz 1;have hmv := Lib.hid (h1.moved (q := p + 1) (by omega));have ho := Lib.hid ((Only.of_below (F := fun k => k = R) hb).setCell (p := ⟨R, 1, none⟩) (.inl rfl) (.int .i64 ((p + 1 : Nat) : Int)));clear h1 hb;go_wp2_with fail
   refine bodyPost_ret (results_none rfl _ _ _) rfl ?_;exact ⟨⟨_, rfl, rfl⟩, hmv.out, ho.out⟩
 · rw [if_neg hq]
   have q : (markT ks p == m) = false := beq_eq_false_iff_ne.2 hq;have g := Lib.hid (fun W (hb : Below w.heap.size w W) => giveUp_any (h.below hb));generalize markT ks p = A at *;clear h;go_enter Tryz.func52, Tryz.ntmps52
   go_wp2_with fail
   refine c.out.mono ?_;rintro e w1 ⟨rfl, hb⟩;go_wp2_with fail
   refine (g.out _ hb).mono ?_;rintro e w2 ⟨he, hb2⟩;have hB := hb.trans (hb2.mono hb.size);unfold GaveP at he;subst he;go_wp2_with fail
   exact ⟨rfl, rfl, hB.mono (Nat.le_of_lt hlt)⟩
set_option maxRecDepth 20000 in
set_option maxHeartbeats 1000000 in
theorem own_any {w : World} {R cap n p : Nat} {a : Option Addr} {ks : List Tk} (h : PR w R a cap n ks p) :
   Calls Tryz.prog 53 #[.pointer (some ⟨R, 0, none⟩)] w (TookP (ownT ks p) (fun x v _ => v = .string ⟨x.toArray⟩) w R a cap n ks) := by
 have c := Lib.hid (ahead_any h);have hlt := h.lt;have kl := h.kl;have g := Lib.hid (fun W (hb : Below w.heap.size w W) => giveUp_any (h.below hb));have hh := Lib.hid h;have hpos : (tkAt ks p).kind = 1 → p < ks.length := by
   intro e;rcases Nat.lt_or_ge p ks.length with hl | hl
   · exact hl
   · unfold tkAt at e
     rw [List.getD_eq_getElem?_getD, List.getElem?_eq_none hl] at e;cases e
 have how : ownT ks p = if (tkAt ks p).kind = 1 ∧ kwB (tkAt ks p).text = false then .ok (tkAt ks p).text (p + 1) else .bad p := by
   unfold ownT tkAt;rw [List.getD_eq_getElem?_getD];cases ks[p]? with
   | none => rfl
   | some x => rfl
 rw [how];clear h how;generalize tkAt ks p = t at *;obtain ⟨kd, tx, nu, at_⟩ := t;unfold tkV at c;dsimp only at c hpos ⊢;by_cases h1 : kd = 1
 · subst h1
   have hpl := hpos rfl;have kK := Lib.hid (fun W => keyword_any ⟨tx.toArray⟩ W);rcases hkb : kwB tx with _ | _
   · rw [if_pos ⟨rfl, rfl⟩]
     have hkb' : kwB (⟨tx.toArray⟩ : ByteArray).toList = false := by simpa using hkb
     rw [hkb'] at kK;go_enter Tryz.func53, Tryz.ntmps53
     go_wp2_with fail
     refine c.out.mono ?_;rintro e w1 ⟨rfl, hb⟩;go_wp2_with fail
     refine (kK.out _).mono ?_;rintro e w2 ⟨rfl, rfl⟩;have hal := hb.alloc hb.size (.cells #[.int .u8 1, .string ⟨tx.toArray⟩, .int .i64 (nu : Int), .int .i64 (at_ : Int)] 54);have h1 := hh.out.below hal;have d1 := h1.c1;have f1 := h1.fz 1;have hmv := Lib.hid (h1.moved (q := p + 1) (by omega));have ho := Lib.hid ((Only.of_below (F := fun k => k = R) hal).setCell (p := ⟨R, 1, none⟩) (.inl rfl) (.int .i64 ((p : Int) + 1)));have y1 := tok_cell w1 1 (.string ⟨tx.toArray⟩) (nu : Int) (at_ : Int);have hRne : (⟨R, 1, none⟩ : Addr) ≠ ⟨w1.heap.size, 1, none⟩ := fun e => by
       injection e with e _ _;have := hb.size;omega
     have y2 := (World.cell?_setCell_other _ ⟨R, 1, none⟩ ⟨w1.heap.size, 1, none⟩ (.int .i64 ((p : Int) + 1)) hRne).trans y1;clear h1 hal;go_wp2_with fail
     go_ret
     exact ⟨⟨_, rfl, rfl⟩, hmv.out, ho.out⟩
   · rw [if_neg (by rintro ⟨_, c⟩; cases c)]
     have hkb' : kwB (⟨tx.toArray⟩ : ByteArray).toList = true := by simpa using hkb
     rw [hkb'] at kK;go_enter Tryz.func53, Tryz.ntmps53
     go_wp2_with fail
     refine c.out.mono ?_;rintro e w1 ⟨rfl, hb⟩;go_wp2_with fail
     refine (kK.out _).mono ?_;rintro e w2 ⟨rfl, rfl⟩;have hal := hb.alloc hb.size (.cells #[.int .u8 1, .string ⟨tx.toArray⟩, .int .i64 (nu : Int), .int .i64 (at_ : Int)] 54);go_wp2_with fail
     refine (g.out _ hal).mono ?_;rintro e w2 ⟨he, hb2⟩;have hB := hal.trans (hb2.mono hal.size);unfold GaveP at he;subst he;go_wp2_with fail
     exact ⟨rfl, rfl, hB.mono (Nat.le_of_lt hlt)⟩
 · have q1 : ((kd : Int) == 1) = false := beq_eq_false_iff_ne.2 (by omega)
   rw [if_neg (by rintro ⟨c, _⟩; exact h1 c)];go_enter Tryz.func53, Tryz.ntmps53
   go_wp2_with fail
   refine c.out.mono ?_;rintro e w1 ⟨rfl, hb⟩;have hal := hb.alloc hb.size (.cells #[.int .u8 (kd : Int), .string ⟨tx.toArray⟩, .int .i64 (nu : Int), .int .i64 (at_ : Int)] 54);go_wp2_with fail
   refine (g.out _ hal).mono ?_;rintro e w2 ⟨he, hb2⟩;have hB := hal.trans (hb2.mono hal.size);unfold GaveP at he;subst he;go_wp2_with fail
   exact ⟨rfl, rfl, hB.mono (Nat.le_of_lt hlt)⟩
end Go.Proofs.YtjiemkidmlgbeaaGreatDoor

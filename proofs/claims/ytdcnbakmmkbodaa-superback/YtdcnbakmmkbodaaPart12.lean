/- The texts SuW, one behind the other. -/
import Derived.Test.YtdcnbakmmkbodaaPart10
import Derived.Test.YtdcnbakmmkbodaaPart11

/- The landed superblocks put into the laws' walks. -/
namespace Go.Proofs.Ytdcnbakmmkbodaa
set_option linter.unusedVariables false
set_option linter.unusedSimpArgs false
open Go.RowKit Dg Cr

theorem supW : Sup (fun _ => True) where
  okK := fun _ _ => trivial
  packB := fun w s c _ hs hc => ppack_any w s c hs hc
  unpB := fun w a n cap l _ hB hl hn h => punp_any w a n cap l hB hl hn h
theorem suChooseW : SuChoose (fun _ => True) := fun w a1 n1 c1 l1 a2 n2 c2 l2 _ h1 h2 h3 h4 h5 h6 h7 h8 => pchoose_any w a1 n1 c1 l1 a2 n2 c2 l2 h1 h2 h3 h4 h5 h6 h7 h8
theorem suchsW_any : type_of% (fun W => suchs_any supW suChooseW W trivial) := fun W => suchs_any supW suChooseW W trivial
theorem supkW_any : type_of% (fun W => supk_any supW suChooseW suNextW W trivial) := fun W => supk_any supW suChooseW suNextW W trivial
theorem subkW_any : type_of% (fun W => subk_any supW suChooseW suNextW W trivial) := fun W => subk_any supW suChooseW suNextW W trivial
theorem suunW_any : type_of% (fun W => suun_any supW suChooseW W trivial) := fun W => suun_any supW suChooseW W trivial
theorem sutnW_any : type_of% (fun W => sutn_any supW suChooseW suNextW W trivial) := fun W => sutn_any supW suChooseW suNextW W trivial
end Go.Proofs.Ytdcnbakmmkbodaa

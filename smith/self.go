package smith

// fence is the sign around the patterns of the tongue; where self is written down, another one stands for it.
const (
	fence     = "`"
	selfFence = "'"
)

// self says the tongue in the tongue. A row of things is a chain of nodes, each with the rest of the row and its last one: so a long row takes no longer, thing by thing, than a short one. What may stand often ahead of one thing (list, -) is such a row, too, so that there are never too many reductions at once. No token is of no rule: what is none of the tongue's is a piece that stands nowhere.
const self = `grammar tongue

tokens
  blank = '[ \t\n\r]+' skip;
  comment = '#[^\n]*' skip;

# Keywords and functions: those that may stand in the same places are one piece.
  key_grammar = 'grammar';
  key_tokens = 'tokens';
  key_levels = 'levels';
  key_rules = 'rules';
  key_skip = 'skip';
  key_pop = 'pop';
  key_push = 'push';
  side = 'left|right|none';
  key_list = 'list';
  key_let = 'let';
  key_in = 'in';
  key_if = 'if';
  key_then = 'then';
  key_else = 'else';
  takes_one = 'len|tag|kids';
  takes_one_or_type = 'text';
  takes_two_or_type = 'int|node';
  takes_three = 'at';

  word = '[a-z][a-z0-9_]*';
  number = '0|[1-9][0-9]*';
  quoted = '"([^"\\\n]|\\["\\n])*"';
  place = '$([1-9]|1[0-9]|20)';
  pattern = '\u{60}[^\u{60}]*\u{60}';

  semicolon = ';';
  colon = ':';
  stroke = '\|';
  open_action = '\{';
  close_action = '\}';
  open = '\(';
  close = '\)';
  open_list = '\[';
  close_list = '\]';
  comma = ',';
  equals = '=';
  compare = '==|<';
  plus = '\+|\+\+';
  minus = '-';
  times = '\*|/';
  percent = '%';

# What is no token: numbers that there are not, and all else, point by point.
  nothing = '0[0-9]+|$[0-9]*|[^]';

levels
  none compare;
  left plus minus;
  left times percent;

rules
  spec : node = key_grammar name parts { node("spec", [$2, $3]) };
  name : node = word { node($1, []) };
  names : node = { node("row", []) } | names name { node("row", [$1, $2]) };

  parts : node = { node("row", []) } | parts part { node("row", [$1, $2]) };
  part : node
    = key_tokens mode pieces { node($1, [$3] ++ $2) }
    | key_levels ranks { node($1, [$2]) }
    | key_rules sorts { node($1, [$2]) };

  mode : list node = { [] } | colon name { [$2] };
  pieces : node = { node("row", []) } | pieces piece { node("row", [$1, $2]) };
  piece : node = name equals pattern turns semicolon { node("piece", [$1, node($3, [])] ++ $4) };

# Each turn stands once at most: so it is said which ones may still come.
  skips : list node = key_skip { [node($1, [])] };
  pops : list node = key_pop { [node($1, [])] };
  pushes : list node = key_push name { [node($1, [$2])] };
  turns : list node = { [] } | skips unless_skip { $1 ++ $2 } | pops unless_pop { $1 ++ $2 } | pushes unless_push { $1 ++ $2 };
  unless_skip : list node = { [] } | pops may_push { $1 ++ $2 } | pushes may_pop { $1 ++ $2 };
  unless_pop : list node = { [] } | skips may_push { $1 ++ $2 } | pushes may_skip { $1 ++ $2 };
  unless_push : list node = { [] } | skips may_pop { $1 ++ $2 } | pops may_skip { $1 ++ $2 };
  may_skip : list node = { [] } | skips { $1 };
  may_pop : list node = { [] } | pops { $1 };
  may_push : list node = { [] } | pushes { $1 };

  ranks : node = { node("row", []) } | ranks rank { node("row", [$1, $2]) };
  rank : node = side name names semicolon { node($1, [$2, $3]) };

  sorts : node = { node("row", []) } | sorts sort { node("row", [$1, $2]) };
  sort : node = name colon lists base equals cases semicolon { node("sort", [$1, $3, $4, $6]) };
  lists : node = { node("row", []) } | lists key_list { node("row", [$1, node($2, [])]) };
  base : node = takes_one_or_type { node($1, []) } | takes_two_or_type { node($1, []) };
  cases : node = case { node("row", [$1]) } | cases stroke case { node("row", [$1, $3]) };
  case : node = names level open_action expression close_action { node("case", [$1, $4] ++ $2) };
  level : list node = { [] } | percent name { [$2] };

  expression : node
    = key_let name equals expression key_in expression { node($1, [$2, $4, $6]) }
    | key_if expression key_then expression key_else expression { node($1, [$2, $4, $6]) }
    | operation { $1 };
  operation : node
    = operation compare operation { node("operation", [node($2, []), $1, $3]) }
    | operation plus operation { node("operation", [node($2, []), $1, $3]) }
    | operation minus operation { node("operation", [node($2, []), $1, $3]) }
    | operation times operation { node("operation", [node($2, []), $1, $3]) }
    | operation percent operation { node("operation", [node($2, []), $1, $3]) }
    | minuses unit { node("negated", [$1, $2]) }
    | unit { $1 };
  minuses : node = minus { node("row", [node($1, [])]) } | minuses minus { node("row", [$1, node($2, [])]) };
  unit : node
    = number { node("leaf", [node($1, [])]) }
    | quoted { node("leaf", [node($1, [])]) }
    | place { node("leaf", [node($1, [])]) }
    | word { node("leaf", [node($1, [])]) }
    | open expression close { $2 }
    | open_list close_list { node("list", [node("row", [])]) }
    | open_list elements close_list { node("list", [$2]) }
    | takes_one open expression close { node("call", [node($1, []), $3]) }
    | takes_one_or_type open expression close { node("call", [node($1, []), $3]) }
    | takes_two_or_type open expression comma expression close { node("call", [node($1, []), $3, $5]) }
    | takes_three open expression comma expression comma expression close { node("call", [node($1, []), $3, $5, $7]) };
  elements : node = expression { node("row", [$1]) } | elements comma expression { node("row", [$1, $3]) };
`
